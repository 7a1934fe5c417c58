/- WHAT IS PROVED HERE: plain facts: what saplingkeep's table has, made by the operations in their order, is a map; a list in the order of its times, no two of them one, is the only such (no program's function is walked). Conditions: none but those named at each theorem. -/
import Derived.Test.YtajobgmnmbnhiaaGreatDoorPt30
import Derived.Test.YtajobgmnmbnhiaaGreatDoorPt36
namespace Go.Proofs.YtajobgmnmbnhiaaGreatDoor.Sap
open Go.RowKit
def mapO (l : List Dn) : Int → Option Int := l.foldl (fun m d => upd d.k d.key d.v m) (fun _ => none)
theorem mapO_snoc (l : List Dn) (d : Dn) : mapO (l ++ [d]) = upd d.k d.key d.v (mapO l) := by simp [mapO]
theorem look_eq {P P' : List (Int × Int)} (hn : (P.map Prod.fst).Nodup) (hn' : (P'.map Prod.fst).Nodup) {q : Int} (h : ∀ v, (q, v) ∈ P' ↔ (q, v) ∈ P) : look P' q = look P q := by
  cases h1 : look P q with
  | some v => exact look_mem hn' ((h v).2 (mem_look h1))
  | none =>
    cases h2 : look P' q with
    | none => rfl
    | some v =>
      have := look_mem hn ((h v).1 (mem_look h2))
      rw [h1] at this; cases this
theorem zip_set (K V : List Int) (i : Nat) (a b : Int) : (K.set i a).zip (V.set i b) = (K.zip V).set i (a, b) := by
  induction K generalizing V i with
  | nil => simp
  | cons x r ih =>
    cases V with
    | nil => simp
    | cons y s =>
      cases i with
      | zero => simp
      | succ i => simp [ih]
theorem zip_take (K V : List Int) (m : Nat) : (K.take m).zip (V.take m) = (K.zip V).take m := by
  induction K generalizing V m with
  | nil => simp
  | cons x r ih =>
    cases V with
    | nil => simp
    | cons y s =>
      cases m with
      | zero => simp
      | succ m => simp [ih]
theorem swap_last {α : Type} (l : List α) (i : Nat) (z : α) (hi : i < l.length) (hz : l[l.length - 1]? = some z) : ((l.set i z).take (l.length - 1)).Perm (l.eraseIdx i) := by
  obtain ⟨m, hm⟩ : ∃ m, l.length = m + 1 := ⟨l.length - 1, by omega⟩
  rw [hm, Nat.add_sub_cancel] at hz ⊢
  have hl : l = l.take m ++ [z] := by
    have h1 : l.take (m + 1) = l := List.take_of_length_le (by omega)
    rw [List.take_add_one, hz] at h1
    exact h1.symm
  by_cases he : i = m
  · subst he
    have : l.set i z = l := by
      rw [List.set_eq_take_append_cons_drop, if_pos hi, List.drop_of_length_le (by omega)]
      exact hl.symm
    rw [this, List.eraseIdx_eq_take_drop_succ, List.drop_of_length_le (by omega), List.append_nil]
  · have him : i < m := by omega
    rw [List.eraseIdx_eq_take_drop_succ, List.set_eq_take_append_cons_drop, if_pos hi]
    have hd : l.drop (i + 1) = (l.drop (i + 1)).take (m - (i + 1)) ++ [z] := by
      conv => lhs; rw [hl]
      rw [List.drop_append_of_le_length (by rw [List.length_take]; omega), List.drop_take]
    have ht : (l.take i ++ z :: l.drop (i + 1)).take m = l.take i ++ z :: (l.drop (i + 1)).take (m - (i + 1)) := by
      rw [List.take_append, List.length_take, Nat.min_eq_left (by omega), List.take_of_length_le (by rw [List.length_take]; omega)]
      congr 1
      rw [show m - i = (m - (i + 1)) + 1 by omega, List.take_succ_cons]
    rw [ht]
    conv => rhs; rw [hd]
    exact List.Perm.append_left _ (List.perm_append_comm (l₁ := [z]))
theorem nodup_inj {K : List Int} (hn : K.Nodup) {i j : Nat} (hi : i < K.length) (hj : j < K.length) (h : K[i] = K[j]) : i = j := by
  rcases Nat.lt_trichotomy i j with hlt | he | hlt
  · exact absurd h (List.pairwise_iff_getElem.1 hn i j hi hj hlt)
  · exact he
  · exact absurd h.symm (List.pairwise_iff_getElem.1 hn j i hj hi hlt)
theorem fst_zip {K V : List Int} (h : K.length = V.length) : (K.zip V).map Prod.fst = K := List.map_fst_zip (by omega)
theorem tdo_look (kd key v : Int) (K V : List Int) (hn : K.Nodup) (hl : K.length = V.length) (hk : kd = 2 ∨ kd = 3) : (tdo kd key v K V).1.Nodup ∧ (tdo kd key v K V).1.length = (tdo kd key v K V).2.length ∧ ∀ q, look ((tdo kd key v K V).1.zip (tdo kd key v K V).2) q = upd kd key v (look (K.zip V)) q := by
  have hlen := (tdo_len kd key v K V hl).1
  have hnz : ((K.zip V).map Prod.fst).Nodup := by rw [fst_zip hl]; exact hn
  unfold tdo at hlen ⊢
  by_cases hm : key ∈ K
  · obtain ⟨i, hi, hki⟩ : ∃ i, ∃ h : i < K.length, K[i] = key := ⟨K.idxOf key, List.idxOf_lt_length_of_mem hm, List.getElem_idxOf _⟩
    have hii : K.idxOf key = i := by
      rw [← hki]
      exact List.Nodup.idxOf_getElem hn i hi
    rw [if_pos hm, hii] at hlen
    rw [if_pos hm, hii]
    clear hii
    have hzi : (K.zip V)[i]? = some (key, V[i]'(by omega)) := by
      rw [List.getElem?_zip_eq_some]
      exact ⟨by rw [List.getElem?_eq_getElem hi, hki], List.getElem?_eq_getElem (by omega)⟩
    rcases hk with rfl | rfl
    · rw [if_pos rfl] at hlen ⊢
      refine ⟨hn, hlen, fun q => ?_⟩
      have hz : K.zip (V.set i v) = (K.zip V).set i (key, v) := by
        have := zip_set K V i key v
        rw [← hki, List.set_getElem_self] at this
        rw [← hki]; exact this
      have hn' : ((K.zip (V.set i v)).map Prod.fst).Nodup := by rw [fst_zip (by simpa using hl)]; exact hn
      show look (K.zip (V.set i v)) q = _
      unfold upd
      by_cases hq : q = key
      · rw [if_pos hq, if_pos rfl, hq]
        refine look_mem hn' ?_
        rw [hz]
        exact List.mem_iff_getElem?.2 ⟨i, by rw [List.getElem?_set_self (by simp; omega)]⟩
      · rw [if_neg hq]
        refine look_eq hnz hn' fun u => ?_
        rw [hz]
        constructor
        · intro h
          obtain ⟨j, hj⟩ := List.mem_iff_getElem?.1 h
          by_cases e : i = j
          · subst e
            rw [List.getElem?_set_self (by simp; omega)] at hj
            cases hj; exact absurd rfl hq
          · rw [List.getElem?_set_ne e] at hj
            exact List.mem_iff_getElem?.2 ⟨j, hj⟩
        · intro h
          obtain ⟨j, hj⟩ := List.mem_iff_getElem?.1 h
          by_cases e : i = j
          · subst e
            rw [hzi] at hj
            cases hj; exact absurd rfl hq
          · exact List.mem_iff_getElem?.2 ⟨j, by rw [List.getElem?_set_ne e]; exact hj⟩
    · rw [if_neg (by decide), if_pos rfl] at hlen ⊢
      have hp : K.length - 1 < K.length := by omega
      have hzl : (K.zip V)[(K.zip V).length - 1]? = some (K[K.length - 1]?.getD 0, V[K.length - 1]?.getD 0) := by
        have e : (K.zip V).length - 1 = K.length - 1 := by rw [List.length_zip]; omega
        rw [e, List.getElem?_zip_eq_some, List.getElem?_eq_getElem hp, List.getElem?_eq_getElem (show K.length - 1 < V.length by omega)]
        exact ⟨rfl, rfl⟩
      have hz : ((K.set i (K[K.length - 1]?.getD 0)).take (K.length - 1)).zip ((V.set i (V[K.length - 1]?.getD 0)).take (K.length - 1)) = ((K.zip V).set i (K[K.length - 1]?.getD 0, V[K.length - 1]?.getD 0)).take ((K.zip V).length - 1) := by
        rw [zip_take, zip_set, List.length_zip]
        congr 1
        omega
      have hpm := swap_last (K.zip V) i _ (by rw [List.length_zip]; omega) hzl
      rw [← hz] at hpm
      have hsub : ((K.zip V).eraseIdx i).Sublist (K.zip V) := List.eraseIdx_sublist _ _
      have hne : (((K.zip V).eraseIdx i).map Prod.fst).Nodup := (hsub.map Prod.fst).nodup hnz
      have hn' : ((((K.set i (K[K.length - 1]?.getD 0)).take (K.length - 1)).zip ((V.set i (V[K.length - 1]?.getD 0)).take (K.length - 1))).map Prod.fst).Nodup := (hpm.map Prod.fst).nodup_iff.2 hne
      refine ⟨?_, hlen, fun q => ?_⟩
      · rw [fst_zip hlen] at hn'; exact hn'
      · show look (((K.set i (K[K.length - 1]?.getD 0)).take (K.length - 1)).zip ((V.set i (V[K.length - 1]?.getD 0)).take (K.length - 1))) q = _
        unfold upd
        have hmem : ∀ u, (q, u) ∈ ((K.set i (K[K.length - 1]?.getD 0)).take (K.length - 1)).zip ((V.set i (V[K.length - 1]?.getD 0)).take (K.length - 1)) ↔ ((q, u) ∈ K.zip V ∧ q ≠ key) := fun u => by
          rw [hpm.mem_iff, List.mem_eraseIdx_iff_getElem?]
          constructor
          · rintro ⟨j, hj, hje⟩
            refine ⟨List.mem_iff_getElem?.2 ⟨j, hje⟩, fun e => hj ?_⟩
            subst e
            rw [List.getElem?_zip_eq_some] at hje
            have hjl := (List.getElem?_eq_some_iff.1 hje.1).1
            have h1 : K[j]'hjl = K[i]'hi := by rw [hki]; exact (List.getElem?_eq_some_iff.1 hje.1).2
            exact nodup_inj hn hjl hi h1
          · rintro ⟨h, hq⟩
            obtain ⟨j, hj⟩ := List.mem_iff_getElem?.1 h
            refine ⟨j, fun e => hq ?_, hj⟩
            subst e
            rw [hzi] at hj; cases hj; rfl
        by_cases hq : q = key
        · rw [if_pos hq, if_neg (by decide), if_pos rfl]
          cases hlk : look (((K.set i (K[K.length - 1]?.getD 0)).take (K.length - 1)).zip ((V.set i (V[K.length - 1]?.getD 0)).take (K.length - 1))) q with
          | none => rfl
          | some u => exact absurd hq ((hmem u).1 (mem_look hlk)).2
        · rw [if_neg hq]
          exact look_eq hnz hn' fun u => ⟨fun h => ((hmem u).1 h).1, fun h => (hmem u).2 ⟨h, hq⟩⟩
  · rw [if_neg hm] at hlen ⊢
    have hno : look (K.zip V) key = none := look_none fun x hx e => hm (by rw [← e]; exact (List.of_mem_zip hx).1)
    rcases hk with rfl | rfl
    · rw [if_pos rfl] at hlen ⊢
      refine ⟨?_, hlen, fun q => ?_⟩
      · show (K ++ [key]).Nodup
        rw [List.nodup_append]
        exact ⟨hn, by simp, fun a ha b hb => by rw [List.mem_singleton] at hb; subst hb; exact fun e => hm (e ▸ ha)⟩
      · show look ((K ++ [key]).zip (V ++ [v])) q = _
        rw [List.zip_append hl, look_append]
        unfold upd
        by_cases hq : q = key
        · rw [if_pos hq, if_pos rfl, hq, hno]; simp [look]
        · rw [if_neg hq]
          have : look ([key].zip [v]) q = none := by simp only [List.zip_cons_cons, look]; rw [if_neg (fun e => hq e.symm)]; rfl
          rw [this, Option.or_none]
    · rw [if_neg (by decide)] at hlen ⊢
      refine ⟨hn, hlen, fun q => ?_⟩
      unfold upd
      by_cases hq : q = key
      · rw [if_pos hq, if_neg (by decide), if_pos rfl, hq]; exact hno
      · rw [if_neg hq]
theorem tabO_snoc (l : List Dn) (d : Dn) : tabO (l ++ [d]) = tdo d.k d.key d.v (tabO l).1 (tabO l).2 := by simp [tabO]
theorem tabO_look (l : List Dn) (hk : ∀ d ∈ l, d.k = 2 ∨ d.k = 3) : (tabO l).1.Nodup ∧ (tabO l).1.length = (tabO l).2.length ∧ ∀ q, look ((tabO l).1.zip (tabO l).2) q = mapO l q := by
  obtain ⟨r, hr⟩ : ∃ r, l = r.reverse := ⟨l.reverse, by simp⟩
  induction r generalizing l with
  | nil => subst hr; exact ⟨by simp [tabO], by simp [tabO], fun q => by simp [tabO, mapO, look]⟩
  | cons d r ih =>
    rw [List.reverse_cons] at hr
    subst hr
    obtain ⟨h1, h2, h3⟩ := ih r.reverse (fun x hx => hk x (by simp at hx ⊢; exact Or.inl hx)) rfl
    rw [tabO_snoc, mapO_snoc]
    obtain ⟨a1, a2, a3⟩ := tdo_look d.k d.key d.v _ _ h1 h2 (hk d (by simp))
    refine ⟨a1, a2, fun q => ?_⟩
    rw [a3]
    unfold upd
    rw [h3]
theorem valR_look {K V : List Int} (hn : K.Nodup) (hl : K.length = V.length) {q : Int} {fd : Bool} {v : Int} (h : ValR K V q fd v) : fd = (look (K.zip V) q).isSome ∧ v = (look (K.zip V) q).getD 0 := by
  have hnz : ((K.zip V).map Prod.fst).Nodup := by rw [fst_zip hl]; exact hn
  rcases h with ⟨h1, h2, h3⟩ | ⟨i, h1, h2, h3, -⟩
  · have hno : look (K.zip V) q = none := look_none fun x hx e => h3 (by rw [← e]; exact (List.of_mem_zip hx).1)
    rw [hno]; exact ⟨h1, h2⟩
  · have := look_mem hnz (List.mem_iff_getElem?.2 ⟨i, (List.getElem?_zip_eq_some (l₁ := K) (l₂ := V) (z := (q, v))).2 ⟨h2, h3⟩⟩)
    rw [this]; exact ⟨h1, rfl⟩
theorem srt_uniq (o o' : List Dn) (hs : o.Pairwise fun a b => a.t < b.t) (hp : o'.Perm o) (hs' : Srt o') : o' = o := by
  induction o generalizing o' with
  | nil => exact hp.eq_nil
  | cons d r ih =>
    cases o' with
    | nil => exact absurd hp.symm.eq_nil (by simp)
    | cons e r' =>
      have hs1 := List.pairwise_cons.1 hs
      have hs2 := List.pairwise_cons.1 hs'
      have hed : e = d := by
        have he : e ∈ d :: r := hp.mem_iff.1 (by simp)
        have hd : d ∈ e :: r' := hp.mem_iff.2 (by simp)
        rcases List.mem_cons.1 he with h | h
        · exact h
        · rcases List.mem_cons.1 hd with k | k
          · exact k.symm
          · have := hs1.1 e h
            have := hs2.1 d k
            omega
      subst hed
      rw [ih r' hs1.2 hp.cons_inv hs2.2]
theorem ahead_snoc (o : List Dn) (d : Dn) (time : Int) (h : time ≤ d.t) : ahead (o ++ [d]) time = ahead o time := by
  unfold ahead
  induction o with
  | nil =>
    have : ¬ d.t < time := by omega
    simp [this]
  | cons x r ih =>
    simp only [List.cons_append, List.takeWhile_cons]
    split
    · rw [ih]
    · rfl
theorem ahead_all (o : List Dn) (time : Int) (h : ∀ d ∈ o, d.t < time) : ahead o time = o := by
  unfold ahead
  induction o with
  | nil => rfl
  | cons x r ih =>
    rw [List.takeWhile_cons, if_pos (by simpa using h x (by simp)), ih fun d hd => h d (by simp [hd])]
structure Scn (o : List Dn) (ts : List Int) (key val : Int) (keys vals bel pts : List Int) : Prop where
  kl : keys.length = vals.length
  asc : keys.Pairwise (· < ·)
  inn : ∀ q ∈ keys, key ≤ q ∧ q < fromV bel key bel.length
  bl : bel.length = pts.length
  pb : ∀ p ∈ pts, 0 ≤ p ∧ p < ts.length
  pp : pts.Pairwise (· < ·)
  bp : ∀ j, j < bel.length → fromV bel key j < fromV bel key (j + 1) ∧ fromV bel key (j + 1) ≤ val + 1
  pc : ∀ j q u, j < bel.length → fromV bel key j ≤ q → q < fromV bel key (j + 1) → ((q, u) ∈ keys.zip vals ↔ mapO (ahead o (ts[(pts[j]?.getD 0).toNat]?.getD 0)) q = some u)
theorem Scn.first (o : List Dn) (ts : List Int) (key val : Int) : Scn o ts key val [] [] [] [] :=
  ⟨rfl, List.Pairwise.nil, fun _ h => (by cases h), rfl, fun _ h => (by cases h), List.Pairwise.nil, fun _ h => (by cases h), fun _ _ _ h => (by cases h)⟩
theorem ts_mem {ts : List Int} {p : Int} (h : 0 ≤ p ∧ p < ts.length) : ts[p.toNat]?.getD 0 ∈ ts := by
  rw [List.getElem?_eq_getElem (by omega)]
  exact List.getElem_mem _
theorem ts_more {ts : List Int} {p now : Int} (h : 0 ≤ p ∧ p < ts.length) : (ts ++ [now])[p.toNat]?.getD 0 = ts[p.toNat]?.getD 0 := by
  rw [List.getElem?_append_left (by omega)]
theorem at_now (ts : List Int) (t : Int) : (ts ++ [t])[ts.length]?.getD 0 = t := by simp
theorem Scn.mono {o o' : List Dn} {ts : List Int} {key val : Int} {keys vals bel pts : List Int} (h : Scn o ts key val keys vals bel pts) (now : Int) (ha : ∀ τ ∈ ts, ahead o' τ = ahead o τ) : Scn o' (ts ++ [now]) key val keys vals bel pts := by
  refine ⟨h.kl, h.asc, h.inn, h.bl, fun p hp => ⟨(h.pb p hp).1, by have := (h.pb p hp).2; rw [List.length_append]; simp; omega⟩, h.pp, h.bp, fun j q u hj h1 h2 => ?_⟩
  have hp : pts[j]?.getD 0 ∈ pts := by rw [List.getElem?_eq_getElem (by rw [← h.bl]; exact hj)]; exact List.getElem_mem _
  rw [ts_more (h.pb _ hp), ha _ (ts_mem (h.pb _ hp))]
  exact h.pc j q u hj h1 h2
theorem Scn.same {o o' : List Dn} {ts : List Int} {key val : Int} {keys vals bel pts : List Int} (h : Scn o ts key val keys vals bel pts) (ha : ∀ τ ∈ ts, ahead o' τ = ahead o τ) : Scn o' ts key val keys vals bel pts := by
  refine ⟨h.kl, h.asc, h.inn, h.bl, h.pb, h.pp, h.bp, fun j q u hj h1 h2 => ?_⟩
  have hp : pts[j]?.getD 0 ∈ pts := by rw [List.getElem?_eq_getElem (by rw [← h.bl]; exact hj)]; exact List.getElem_mem _
  rw [ha _ (ts_mem (h.pb _ hp))]
  exact h.pc j q u hj h1 h2
theorem from_snoc (bel : List Int) (key b : Int) (j : Nat) (h : j ≤ bel.length) : fromV (bel ++ [b]) key j = fromV bel key j := by
  cases j with
  | zero => rfl
  | succ j => show (bel ++ [b])[j]?.getD 0 = bel[j]?.getD 0; rw [List.getElem?_append_left (by omega)]
theorem from_last (bel : List Int) (key b : Int) : fromV (bel ++ [b]) key (bel.length + 1) = b := by
  show (bel ++ [b])[bel.length]?.getD 0 = b; simp
theorem want_from {s : St} (h : s.lv = 0) : wantV s = fromV s.bel s.key s.bel.length := by
  unfold wantV
  rw [if_neg (by omega)]
  cases hb : s.bel with
  | nil => rfl
  | cons x r => show (x :: r).getLast?.getD s.key = (x :: r)[r.length]?.getD 0; rw [List.getLast?_eq_getElem?]; simp
theorem asc_ent {n : Nd} (h : rightB n = true) : Asc (ent n) := by
  have hb := right_bd n h
  have h1 := right_pw n h
  have h2 : (ent n).map Prod.fst = n.ks := List.map_fst_zip (by have := hb.2.2.2.1; omega)
  rw [← h2] at h1
  exact List.pairwise_map.1 h1
theorem rng_iff (a b : Int) (x : Int × Int) : rng a b x = true ↔ a ≤ x.1 ∧ x.1 < b := by simp [rng]
theorem lmap_mem {n : Nd} (h : rightB n = true) (q u : Int) : (q, u) ∈ ent n ↔ lmap n q = some u := by
  have hb := right_bd n h
  constructor
  · intro h1
    refine look_mem ?_ h1
    rw [List.map_fst_zip (by have := hb.2.2.2.1; omega)]
    exact (right_pw n h).imp fun h e => by omega
  · intro h1; exact mem_look h1
theorem sc_zip {s : St} {n : Nd} (hr : rightB n = true) (hkl : s.keys.length = s.vals.length) (h12 : s.keys.length < 12) (hw : wantV s ≤ s.val) (hh : wantV s < n.hi) :
    (scK s n).length = (scV s n).length ∧ (scK s n).zip (scV s n) = s.keys.zip s.vals ++ (ent n).filter (rng (wantV s) (scB s n)) ∧ wantV s < scB s n ∧ scB s n ≤ s.val + 1 ∧ scB s n ≤ n.hi := by
  have hb := right_bd n hr
  obtain ⟨s1, s2⟩ := ad_spec n.ks n.vs (wantV s) s.val s.keys s.vals n.ks.length hb.2.2.2.1 (Nat.le_refl _) hkl (by omega)
  have hz : (n.ks.zip n.vs).take n.ks.length = ent n := List.take_of_length_le (by simp; omega)
  rw [hz] at s2
  have e1 : adK n.ks (wantV s) s.val s.keys n.ks.length = scK s n := rfl
  have e2 : adV n.ks n.vs (wantV s) s.val s.keys s.vals n.ks.length = scV s n := rfl
  rw [e1, e2] at s1 s2
  have hZ : (s.keys.zip s.vals).length = s.keys.length := by rw [List.length_zip]; omega
  have hL : (scK s n).length = ((s.keys.zip s.vals ++ (ent n).filter (rng (wantV s) (s.val + 1))).take 12).length := by rw [← s2, List.length_zip]; omega
  have hfst : ((scK s n).zip (scV s n)).map Prod.fst = scK s n := List.map_fst_zip (by omega)
  refine ⟨s1, ?_⟩
  by_cases hf : 12 ≤ (scK s n).length
  · have hB : scB s n = (scK s n).getLast?.getD 0 + 1 := by unfold scB; rw [if_pos hf]
    rw [List.take_append, hZ, List.take_of_length_le (by omega)] at s2
    obtain ⟨m, hm⟩ : ∃ m, 12 - s.keys.length = m + 1 := ⟨11 - s.keys.length, by omega⟩
    rw [hm] at s2
    have hlen := congrArg List.length s2
    rw [List.length_zip, List.length_append, hZ] at hlen
    have hpos : 0 < (((ent n).filter (rng (wantV s) (s.val + 1))).take (m + 1)).length := by omega
    obtain ⟨y, hy⟩ : ∃ y, (((ent n).filter (rng (wantV s) (s.val + 1))).take (m + 1)).getLast? = some y := by
      cases hc : (((ent n).filter (rng (wantV s) (s.val + 1))).take (m + 1)).getLast? with
      | none => rw [List.getLast?_eq_none_iff] at hc; rw [hc] at hpos; cases hpos
      | some y => exact ⟨y, rfl⟩
    have hF := filter_take (asc_ent hr) hy
    have hym := List.mem_of_mem_take (List.mem_of_getLast? hy)
    have hy2 := (rng_iff _ _ _).1 (List.mem_filter.1 hym).2
    have hy3 := (right_kb n hr y.1 (ent_key (List.mem_filter.1 hym).1).1).2
    have hlast : (scK s n).getLast? = some y.1 := by
      rw [← hfst, s2, List.map_append, List.getLast?_append, List.getLast?_map, hy]; rfl
    have hBy : scB s n = y.1 + 1 := by rw [hB, hlast]; rfl
    rw [hBy]
    refine ⟨?_, by omega, by omega, by omega⟩
    rw [s2, hF]
  · rw [List.take_of_length_le (by rw [List.length_take] at hL; omega)] at s2
    have hB : scB s n = if s.val + 1 < n.hi then s.val + 1 else n.hi := by unfold scB; rw [if_neg hf]
    have hBe : scB s n ≤ s.val + 1 ∧ scB s n ≤ n.hi ∧ wantV s < scB s n := by rw [hB]; split <;> omega
    refine ⟨?_, hBe.2.2, hBe.1, hBe.2.1⟩
    rw [s2]
    congr 1
    refine List.filter_congr fun x hx => ?_
    have := (right_kb n hr x.1 (ent_key hx).1).2
    rw [Bool.eq_iff_iff, rng_iff, rng_iff, hB]
    split <;> omega
theorem Scn.more {o o' : List Dn} {ts : List Int} {s : St} {n : Nd} {low now : Int} (h : Scn o ts s.key s.val s.keys s.vals s.bel s.pts) (hr : rightB n = true) (hlv : s.lv = 0) (h12 : s.keys.length < 12) (hw : wantV s ≤ s.val) (hh : wantV s < n.hi) (hlo : low ≤ wantV s)
    (hm : ∀ q, low ≤ q → q < n.hi → lmap n q = mapO o q) (hst : s.step = ts.length) (ha : ∀ τ ∈ ts, ahead o' τ = ahead o τ) (hn : ahead o' now = o) :
    Scn o' (ts ++ [now]) s.key s.val (scK s n) (scV s n) (s.bel ++ [scB s n]) (s.pts ++ [s.step]) := by
  obtain ⟨k1, k2, k3, k4, k5⟩ := sc_zip hr h.kl h12 hw hh
  have hwf := want_from hlv
  have hfst : ((scK s n).zip (scV s n)).map Prod.fst = scK s n := List.map_fst_zip (by omega)
  have hK : scK s n = s.keys ++ ((ent n).filter (rng (wantV s) (scB s n))).map Prod.fst := by
    rw [← hfst, k2, List.map_append, List.map_fst_zip (by have := h.kl; omega)]
  have hF : ∀ q ∈ ((ent n).filter (rng (wantV s) (scB s n))).map Prod.fst, wantV s ≤ q ∧ q < scB s n := fun q hq => by
    obtain ⟨y, hy, rfl⟩ := List.mem_map.1 hq
    exact (rng_iff _ _ _).1 (List.mem_filter.1 hy).2
  have hbase : ∀ j, j ≤ s.bel.length → s.key ≤ fromV s.bel s.key j := fun j => by
    induction j with
    | zero => intro _; exact Int.le_refl _
    | succ j ih => intro hj; have := ih (by omega); have := (h.bp j (by omega)).1; omega
  have hup : ∀ d j, j + d ≤ s.bel.length → fromV s.bel s.key j ≤ fromV s.bel s.key (j + d) := fun d => by
    induction d with
    | zero => intro j _; exact Int.le_refl _
    | succ d ih => intro j hj; have := ih j (by omega); have := (h.bp (j + d) (by omega)).1; rw [← Nat.add_assoc]; omega
  have hbw := hbase s.bel.length (Nat.le_refl _)
  have hkz : ∀ q u, (q, u) ∈ s.keys.zip s.vals → q < wantV s := fun q u hq => by rw [hwf]; exact (h.inn q (List.of_mem_zip hq).1).2
  refine ⟨k1, ?_, fun q hq => ?_, by rw [List.length_append, List.length_append, h.bl]; rfl, fun p hp => ?_, ?_, fun j hj => ?_, fun j q u hj h1 h2 => ?_⟩
  · rw [hK, List.pairwise_append]
    refine ⟨h.asc, List.pairwise_map.2 (asc_filter _ (asc_ent hr)), fun a ha b hb => ?_⟩
    have := (h.inn a ha).2
    have := (hF b hb).1
    omega
  · rw [List.length_append, List.length_singleton, from_last]
    rw [hK] at hq
    rcases List.mem_append.1 hq with hq | hq
    · have := h.inn q hq; omega
    · have := hF q hq; omega
  · rw [List.length_append, List.length_singleton]
    rcases List.mem_append.1 hp with hp | hp
    · have := h.pb p hp; omega
    · rw [List.mem_singleton] at hp; omega
  · rw [List.pairwise_append]
    refine ⟨h.pp, by simp, fun a ha b hb => ?_⟩
    rw [List.mem_singleton] at hb
    have := h.pb a ha
    omega
  · rw [List.length_append, List.length_singleton] at hj
    rw [from_snoc _ _ _ _ (by omega)]
    rcases Nat.lt_or_ge j s.bel.length with hj2 | hj2
    · rw [from_snoc _ _ _ _ (by omega)]; exact h.bp j hj2
    · obtain rfl : j = s.bel.length := by omega
      rw [from_last]
      omega
  · rw [List.length_append, List.length_singleton] at hj
    rw [from_snoc _ _ _ _ (by omega)] at h1
    rw [k2, List.mem_append, List.mem_filter, rng_iff]
    rcases Nat.lt_or_ge j s.bel.length with hj2 | hj2
    · rw [from_snoc _ _ _ _ (by omega)] at h2
      have hjp : j < s.pts.length := by rw [← h.bl]; exact hj2
      rw [List.getElem?_append_left hjp]
      have hp : s.pts[j]?.getD 0 ∈ s.pts := by rw [List.getElem?_eq_getElem hjp]; exact List.getElem_mem _
      rw [ts_more (h.pb _ hp), ha _ (ts_mem (h.pb _ hp)), ← h.pc j q u hj2 h1 h2]
      refine ⟨fun hx => ?_, Or.inl⟩
      rcases hx with hx | ⟨-, hx⟩
      · exact hx
      · have := hup (s.bel.length - (j + 1)) (j + 1) (by omega)
        rw [show j + 1 + (s.bel.length - (j + 1)) = s.bel.length by omega] at this
        have h3 : wantV s ≤ q := hx.1
        omega
    · obtain rfl : j = s.bel.length := by omega
      rw [from_last] at h2
      have e : (s.pts ++ [s.step])[s.bel.length]?.getD 0 = s.step := by rw [h.bl]; simp
      rw [e, hst, Int.toNat_natCast, at_now, hn, ← hm q (by omega) (by omega), ← lmap_mem hr]
      refine ⟨fun hx => ?_, fun hx => Or.inr ⟨hx, by omega, h2⟩⟩
      rcases hx with hx | ⟨hx, -⟩
      · have := hkz q u hx
        omega
      · exact hx
def valS (k v : Int) : Int := if k = 1 ∨ k = 3 then 0 else v
structure SprOk (t : Tre) (U : List Bool) (V kns : List Int) (s : St) : Prop where
  nd : s.sp.Nodup
  ok : ∀ (j : Nat) (a : Int), s.sp[j]? = some a → ∃ p : Nat, a = (p : Int) ∧ 1 ≤ p ∧ p < 64 ∧ ¬ t.inn p ∧ U[p]? = some true ∧ ∃ v, s.sv[j]? = some v ∧ V[p]? = some v ∧ kns[p]? = some v
structure Ent (t : Tre) (o : List Dn) (s : St) (d : Dd) : Prop where
  ch : t.kid s.lv (s.low, s.ch)
  pt : 0 ≤ s.pt ∧ s.pt < d.ts.length
  no : mapO (ahead o (d.ts[s.pt.toNat]?.getD 0)) d.key = none
structure Wr (T : List ByteArray) (V kns : List Int) (s : St) (n : Nd) : Prop where
  pl : PlOk n s
  kn : kns[s.pg.toNat]? = some s.ver
  cur : ∃ c, V[s.pg.toNat]? = some c ∧ 0 ≤ s.ver ∧ s.ver ≤ c ∧ (c = s.ver → T[s.pg.toNat]? = some s.sw)
  l9 : ¬ (crwB n s = true ∧ s.lv = 9)
  rgt : 1 ≤ s.laid → ∃ (r : Nat) (tx : ByteArray), s.sp[0]? = some (r : Int) ∧ T[r]? = some tx ∧ Unp tx.data.toList (rgtN (chgN n s) (lowV n s))
  lft : s.laid = 2 → ∃ (l r : Nat) (tx : ByteArray), s.sp[1]? = some (l : Int) ∧ s.sp[0]? = some (r : Int) ∧ T[l]? = some tx ∧ Unp tx.data.toList (lftN (chgN n s) (lowV n s) r)
structure Live (t : Tre) (T : List ByteArray) (U : List Bool) (V : List Int) (o : List Dn) (s : St) (d : Dd) : Prop where
  live : d.live
  ok : StOk s
  f : d.f.data.toList = frT s
  kd : s.kd = d.k
  key : s.key = d.key
  val : s.val = valS d.k d.v
  step : s.step = d.ts.length
  spr : SprOk t U V d.kns s
  ent : 0 < s.lv → Ent t o s d
  way : Way t s.pg.toNat s.lv (wantV s)
  wr : s.sw ≠ ⟨#[]⟩ → ∃ n, Wr T V d.kns s n
  sc : s.kd = 4 → Scn o d.ts s.key s.val s.keys s.vals s.bel s.pts ∧ ∀ b ∈ s.bel, ∃ q, t.inn q ∧ q ≠ 0 ∧ (t.nd q).lv = 0 ∧ t.low q = b
def Dd.at (d : Dd) : Int := d.ts[d.pt.toNat]?.getD 0
structure Scanned (o : List Dn) (d : Dd) (bel pts : List Int) : Prop where
  er : d.er = 0
  fd : d.fd = decide (0 < d.ks.length)
  va : d.va = d.ks.length
  cs : d.cs = bel.zip pts
  sc : Scn o d.ts d.key d.v d.ks d.vs bel pts
  b0 : 0 < bel.length
  b64 : bel.length ≤ 64
  pt : pts.getLast? = some d.pt
  k12 : d.ks.length ≤ 12
  en : (d.ks.length = 12 ∧ fromV bel d.key bel.length = d.ks.getLast?.getD 0 + 1) ∨ (d.ks.length < 12 ∧ fromV bel d.key bel.length = d.v + 1)
structure Ended (o : List Dn) (now : Int) (d : Dd) : Prop where
  p : ∃ p : Nat, d.pt = (p : Int) ∧ p < d.ts.length
  an : (d.k = 4 ∧ ∃ bel pts, Scanned o d bel pts) ∨
    (d.k ≠ 4 ∧ d.ks = [] ∧ d.vs = [] ∧ d.cs = [] ∧ ((d.er = 4 ∧ d.k = 2 ∧ d.fd = false ∧ d.va = 0) ∨ (d.er = 0 ∧ d.fd = (mapO (ahead o d.at) d.key).isSome ∧ d.va = (mapO (ahead o d.at) d.key).getD 0)))
def effD (s : St) (d : Dd) : Option Dn := if d.en then tkD d else if 0 < s.lv then some ⟨d.ts[s.pt.toNat]?.getD 0, d.k, d.key, d.v⟩ else none
def effA (S : Nat → St) (ds : List Dd) (i : Nat) : Option Dn := (ds[i]?).bind (effD (S i))
def effs (S : Nat → St) (ds : List Dd) : List Dn := (List.range ds.length).filterMap (effA S ds)
def upS (S : Nat → St) (i : Nat) (s : St) : Nat → St := fun j => if j = i then s else S j
theorem fm_same {α : Type} (E E' : Nat → Option α) (n : Nat) (h : ∀ j, j < n → E' j = E j) : (List.range n).filterMap E' = (List.range n).filterMap E := by
  induction n with
  | zero => rfl
  | succ n ih =>
    rw [List.range_succ, List.filterMap_append, List.filterMap_append, ih fun j hj => h j (by omega)]
    congr 1
    rw [List.filterMap_cons, List.filterMap_cons, h n (by omega)]
    rfl
theorem fm_new {α : Type} (E E' : Nat → Option α) (n i : Nat) (e : α) (hi : i < n) (h0 : E i = none) (h1 : E' i = some e) (h : ∀ j, j ≠ i → E' j = E j) : ((List.range n).filterMap E ++ [e]).Perm ((List.range n).filterMap E') := by
  induction n with
  | zero => omega
  | succ n ih =>
    rw [List.range_succ, List.filterMap_append, List.filterMap_append]
    rcases Nat.lt_or_ge i n with hin | hin
    · have e1 : List.filterMap E' [n] = List.filterMap E [n] := by rw [List.filterMap_cons, List.filterMap_cons, h n (by omega)]; rfl
      rw [e1, List.append_assoc]
      refine (List.Perm.append_left _ List.perm_append_comm).trans ?_
      rw [← List.append_assoc]
      exact List.Perm.append_right _ (ih hin)
    · obtain rfl : i = n := by omega
      rw [fm_same E E' i fun j hj => h j (by omega)]
      have e1 : List.filterMap E [i] = [] := by simp [h0]
      have e2 : List.filterMap E' [i] = [e] := by simp [h1]
      rw [e1, e2, List.append_nil]
structure DdOk (t : Tre) (T : List ByteArray) (U : List Bool) (V : List Int) (o : List Dn) (now : Int) (s : St) (d : Dd) : Prop where
  op : opR d.k d.key d.v = true
  nt : (d.ts.length : Int) ≤ now
  lt : ∀ τ ∈ d.ts, 0 ≤ τ ∧ τ < now
  tp : d.ts.Pairwise (· < ·)
  kl : d.kns.length = 64
  lv : d.en = false → Live t T U V o s d
  ed : d.en = true → Ended o now d
structure Inv (wt : Bool) (gw : Nat) (x : Wd) (t : Tre) (S : Nat → St) (o : List Dn) : Prop where
  pg : x.gw = gw
  kp : x.kp = false
  wt : x.wt = wt
  ov : x.ov = .slice none 0 0
  tl : x.T.length = 64
  ul : x.U.length = 64
  vl : x.V.length = 64
  tok : t.Ok
  lf : Leafs t (mapO o)
  say : ∀ p, t.inn p → Says x.T x.U p (t.nd p)
  us : ∀ p : Nat, x.U[p]? = some true → ∃ n, Says x.T x.U p n
  vb : ∀ (p : Nat) v, x.V[p]? = some v → 0 ≤ v ∧ v ≤ x.now
  now : 0 ≤ x.now
  puts : 0 ≤ x.puts ∧ x.puts ≤ x.ds.length
  bsl : x.bs.length = 64
  bs : ∀ c, c < 64 → x.bs[c]? = some (-1) ∨ ∃ (i : Nat) (d : Dd), x.bs[c]? = some (i : Int) ∧ x.ds[i]? = some d ∧ d.en = false
  inj : ∀ (c c' i : Nat), x.bs[c]? = some (i : Int) → x.bs[c']? = some (i : Int) → c = c'
  ds : ∀ (i : Nat) (d : Dd), x.ds[i]? = some d → DdOk t x.T x.U x.V o x.now (S i) d
  apart : ∀ (i j : Nat) (d e : Dd), x.ds[i]? = some d → x.ds[j]? = some e → d.en = false → e.en = false → i ≠ j → ∀ a ∈ (S i).sp, a ∉ (S j).sp
  own : ∀ (i : Nat) (d : Dd), x.ds[i]? = some d → d.en = false → ∃ c, c < 64 ∧ x.bs[c]? = some (i : Int)
  os : o.Pairwise fun a b => a.t < b.t
  op : o.Perm (effs S x.ds)
  ot : ∀ e ∈ o, e.t < x.now
  ok : ∀ e ∈ o, e.k = 2 ∨ e.k = 3
structure Chg (now : Int) (t t' : Tre) (s : St) (T T' : List ByteArray) (U U' : List Bool) (V V' : List Int) (o' : List Dn) : Prop where
  ok : t'.Ok
  gr : Grows t t'
  tl : T'.length = 64
  ul : U'.length = 64
  vl : V'.length = 64
  say : ∀ p, t'.inn p → Says T' U' p (t'.nd p)
  us : ∀ p : Nat, U'[p]? = some true → ∃ n, Says T' U' p n
  vb : ∀ (p : Nat) v, V'[p]? = some v → 0 ≤ v ∧ v ≤ now + 1
  lf : Leafs t' (mapO o')
  uu : ∀ p : Nat, U[p]? = some true → U'[p]? = some true
  q : ∃ q : Nat, (∀ p : Nat, p ≠ q → T'[p]? = T[p]? ∧ V'[p]? = V[p]?) ∧ ((q : Int) ∈ s.sp ∨ U[q]? = some false ∨ (t.inn q ∧ ∃ v, V[q]? = some v ∧ V'[q]? = some (v + 1)) ∨ (T' = T ∧ V' = V))
  new : ∀ p, t'.inn p → t.inn p ∨ (p : Int) ∈ s.sp
theorem Chg.none {now : Int} {t : Tre} {s : St} {T : List ByteArray} {U : List Bool} {V : List Int} {o : List Dn} (ok : t.Ok) (tl : T.length = 64) (ul : U.length = 64) (vl : V.length = 64) (say : ∀ p, t.inn p → Says T U p (t.nd p)) (us : ∀ p : Nat, U[p]? = some true → ∃ n, Says T U p n) (vb : ∀ (p : Nat) v, V[p]? = some v → 0 ≤ v ∧ v ≤ now) (lf : Leafs t (mapO o)) : Chg now t t s T T U U V V o :=
  ⟨ok, Grows.refl t, tl, ul, vl, say, us, fun p v h => by have := vb p v h; omega, lf, fun _ h => h, ⟨0, fun _ _ => ⟨rfl, rfl⟩, Or.inr (Or.inr (Or.inr ⟨rfl, rfl⟩))⟩, fun _ h => Or.inl h⟩
theorem kid_mono {t t' : Tre} (g : Grows t t') {l : Int} {e : Int × Int} (h : t.kid l e) (h0 : e.2 ≠ 0) : t'.kid l e := by
  obtain ⟨q, h1, h2, h3, h4⟩ := h
  have hq : q ≠ 0 := fun e => h0 (by rw [h1, e]; rfl)
  exact ⟨q, h1, g.inn q h2, by rw [g.low q h2]; exact h3, by rw [g.lvE q h2 hq]; exact h4⟩
theorem StOk.pgN {s : St} (h : StOk s) : ∃ p : Nat, s.pg = (p : Int) ∧ p < 64 ∧ s.pg.toNat = p := ⟨s.pg.toNat, by have := h.pg; omega, by have := h.pg; omega, rfl⟩
theorem ent_mono {t t' : Tre} (g : Grows t t') {o o' : List Dn} {s : St} {d d' : Dd} (hs : StOk s) (hl : 0 < s.lv) (h : Ent t o s d) (hk : d'.key = d.key) (hts : d'.ts = d.ts ∨ ∃ now, d'.ts = d.ts ++ [now]) (ha : ∀ τ ∈ d.ts, ahead o' τ = ahead o τ) : Ent t' o' s d' := by
  have e1 : d'.ts[s.pt.toNat]?.getD 0 = d.ts[s.pt.toNat]?.getD 0 := by
    rcases hts with e | ⟨now, e⟩
    · rw [e]
    · rw [e]; exact ts_more h.pt
  refine ⟨kid_mono g h.ch ?_, ⟨h.pt.1, ?_⟩, ?_⟩
  · rcases hs.ent with h1 | h1
    · omega
    · show s.ch ≠ 0; omega
  · have := h.pt.2
    rcases hts with e | ⟨now, e⟩
    · rw [e]; exact this
    · rw [e, List.length_append, List.length_singleton]; omega
  · rw [e1, ha _ (ts_mem h.pt), hk]; exact h.no
theorem bel_mono {t t' : Tre} (g : Grows t t') {bel : List Int} (h : ∀ b ∈ bel, ∃ q, t.inn q ∧ q ≠ 0 ∧ (t.nd q).lv = 0 ∧ t.low q = b) : ∀ b ∈ bel, ∃ q, t'.inn q ∧ q ≠ 0 ∧ (t'.nd q).lv = 0 ∧ t'.low q = b := fun b hb => by
  obtain ⟨q, h1, h2, h3, h4⟩ := h b hb
  exact ⟨q, g.inn q h1, h2, by rw [g.lvE q h1 h2]; exact h3, by rw [g.low q h1]; exact h4⟩
theorem mem_sp {s : St} {a : Int} (h : a ∈ s.sp) : ∃ j : Nat, s.sp[j]? = some a := List.mem_iff_getElem?.1 h
theorem Live.other {now : Int} {t t' : Tre} {s : St} {T T' : List ByteArray} {U U' : List Bool} {V V' : List Int} {o o' : List Dn} (C : Chg now t t' s T T' U U' V V' o') {kns : List Int} (hs : SprOk t U V kns s) (say : ∀ p, t.inn p → Says T U p (t.nd p)) {s2 : St} {d : Dd} (h : Live t T U V o s2 d) (hap : ∀ a ∈ s.sp, a ∉ s2.sp) (ha : ∀ τ ∈ d.ts, ahead o' τ = ahead o τ) : Live t' T' U' V' o' s2 d := by
  obtain ⟨q, hq1, hq2⟩ := C.q
  have spq : ∀ (j : Nat) (p : Nat), s2.sp[j]? = some (p : Int) → ¬ t'.inn p ∧ U'[p]? = some true ∧ (T'[p]? = T[p]? ∧ V'[p]? = V[p]?) := fun j p hj => by
    have hm : (p : Int) ∈ s2.sp := List.mem_of_getElem? hj
    obtain ⟨p', e, h1, h2, h3, h4, -⟩ := h.spr.ok j _ hj
    obtain rfl : p = p' := by omega
    refine ⟨fun hi => ?_, C.uu p h4, ?_⟩
    · rcases C.new p hi with h5 | h5
      · exact h3 h5
      · exact hap _ h5 hm
    · rcases hq2 with h5 | h5 | ⟨h5, -⟩ | ⟨h5, h6⟩
      · exact hq1 p fun e => hap _ h5 (e ▸ hm)
      · exact hq1 p fun e => by subst e; rw [h4] at h5; cases h5
      · exact hq1 p fun e => h3 (e ▸ h5)
      · rw [h5, h6]; exact ⟨rfl, rfl⟩
  refine ⟨h.live, h.ok, h.f, h.kd, h.key, h.val, h.step, ⟨h.spr.nd, fun j a hj => ?_⟩, fun hl => ent_mono C.gr h.ok hl (h.ent hl) rfl (Or.inl rfl) ha, h.way.mono C.gr, fun hw => ?_, fun hk => ?_⟩
  · obtain ⟨p, rfl, h1, h2, h3, h4, v, h5, h6, h7⟩ := h.spr.ok j a hj
    obtain ⟨k1, k2, k3, k4⟩ := spq j p hj
    exact ⟨p, rfl, h1, h2, k1, k2, v, h5, by rw [k4]; exact h6, h7⟩
  · obtain ⟨n, w⟩ := h.wr hw
    refine ⟨n, w.pl, w.kn, ?_, w.l9, fun hl => ?_, fun hl => ?_⟩
    · obtain ⟨c, c1, c2, c3, c4⟩ := w.cur
      by_cases e : s2.pg.toNat = q
      · rcases hq2 with h5 | h5 | ⟨h5, v, h6, h7⟩ | ⟨h5, h6⟩
        · obtain ⟨j, hj⟩ := mem_sp h5
          obtain ⟨p', e', -, -, h3, -⟩ := hs.ok j _ hj
          exact absurd h.way.inn (by rw [e, show q = p' by omega]; exact h3)
        · have := (say _ h.way.inn).2.1
          rw [e, h5] at this; cases this
        · rw [e] at c1 ⊢
          rw [h6] at c1
          have := Option.some.inj c1
          exact ⟨v + 1, h7, c2, by omega, fun e2 => by omega⟩
        · rw [h5, h6]; exact ⟨c, c1, c2, c3, c4⟩
      · rw [(hq1 _ e).1, (hq1 _ e).2]; exact ⟨c, c1, c2, c3, c4⟩
    · obtain ⟨r, tx, h1, h2, h3⟩ := w.rgt hl
      exact ⟨r, tx, h1, by rw [(spq 0 r h1).2.2.1]; exact h2, h3⟩
    · obtain ⟨l, r, tx, h1, h2, h3, h4⟩ := w.lft hl
      exact ⟨l, r, tx, h1, h2, by rw [(spq 1 l h1).2.2.1]; exact h3, h4⟩
  · exact ⟨(h.sc hk).1.same ha, bel_mono C.gr (h.sc hk).2⟩
theorem Ended.mono {o o' : List Dn} {now now' : Int} {d : Dd} (h : Ended o now d) (ha : ∀ τ ∈ d.ts, ahead o' τ = ahead o τ) : Ended o' now' d := by
  obtain ⟨p, hp, hp2⟩ := h.p
  have e : ahead o' d.at = ahead o d.at := ha _ (by unfold Dd.at; exact ts_mem ⟨by omega, by omega⟩)
  refine ⟨⟨p, hp, hp2⟩, ?_⟩
  rcases h.an with ⟨h1, bel, pts, S⟩ | h1
  · exact Or.inl ⟨h1, bel, pts, S.er, S.fd, S.va, S.cs, S.sc.same ha, S.b0, S.b64, S.pt, S.k12, S.en⟩
  · rw [← e] at h1; exact Or.inr h1
def Took (s s' : St) (d d' : Dd) (now : Int) (o o' : List Dn) : Prop :=
  (effD s' d' = effD s d ∧ o' = o) ∨ (effD s d = none ∧ ∃ e, effD s' d' = some e ∧ o' = o ++ [e] ∧ e.t = now ∧ (e.k = 2 ∨ e.k = 3))
theorem Took.ahead {s s' : St} {d d' : Dd} {now : Int} {o o' : List Dn} (h : Took s s' d d' now o o') {τ : Int} (ht : τ < now) : ahead o' τ = ahead o τ := by
  rcases h with ⟨-, h⟩ | ⟨-, e, -, h, h2, -⟩
  · rw [h]
  · rw [h]; exact ahead_snoc o e τ (by omega)
theorem Took.aheadN {s s' : St} {d d' : Dd} {now : Int} {o o' : List Dn} (h : Took s s' d d' now o o') (ho : ∀ e ∈ o, e.t < now) : Sap.ahead o' now = o := by
  rcases h with ⟨-, h⟩ | ⟨-, e, -, h, h2, -⟩
  · rw [h]; exact ahead_all o now ho
  · rw [h, ahead_snoc o e now (by omega)]; exact ahead_all o now ho
theorem Inv.step {wt : Bool} {gw : Nat} {x : Wd} {t t' : Tre} {S : Nat → St} {o o' : List Dn} (h : Inv wt gw x t S o) {c i : Nat} {d d' : Dd} {s' : St} {T' : List ByteArray} {U' : List Bool} {V' : List Int} {bs' : List Int} {rf' : Bool} (hc : c < 64) (hb : x.bs[c]? = some (i : Int)) (hd : x.ds[i]? = some d) (he : d.en = false)
    (C : Chg x.now t t' (S i) x.T T' x.U U' x.V V' o') (hop : d'.k = d.k ∧ d'.key = d.key ∧ d'.v = d.v) (hts : d'.ts = d.ts ++ [x.now]) (hkl : d'.kns.length = 64)
    (hO : Took (S i) s' d d' x.now o o') (hsp : ∀ a ∈ s'.sp, a ∈ (S i).sp ∨ ∃ p : Nat, a = (p : Int) ∧ x.U[p]? = some false)
    (hL : (d'.en = false ∧ bs' = x.bs ∧ Live t' T' U' V' o' s' d') ∨ (d'.en = true ∧ bs' = x.bs.set c (-1) ∧ Ended o' (x.now + 1) d')) :
    Inv wt gw { x with T := T', U := U', V := V', bs := bs', now := x.now + 1, rf := rf', ds := x.ds.set i d' } t' (upS S i s') o' := by
  have hi := (List.getElem?_eq_some_iff.1 hd).1
  have hD := h.ds i d hd
  have hLv := hD.lv he
  have hcb : c < x.bs.length := by rw [h.bsl]; exact hc
  have hnow := h.now
  have upne : ∀ j, j ≠ i → upS S i s' j = S j := fun j hj => if_neg hj
  have upeq : upS S i s' i = s' := if_pos rfl
  have hfree : ∀ (j : Nat) (e : Dd) (p : Nat), x.ds[j]? = some e → e.en = false → (p : Int) ∈ (S j).sp → x.U[p]? ≠ some false := fun j e p hj hen hm hU => by
    obtain ⟨k, hk⟩ := mem_sp hm
    obtain ⟨p', e1, -, -, -, h4, -⟩ := ((h.ds j e hj).lv hen).spr.ok k _ hk
    rw [show p = p' by omega, h4] at hU
    cases hU
  refine ⟨h.pg, h.kp, h.wt, h.ov, C.tl, C.ul, C.vl, C.ok, C.lf, C.say, C.us, C.vb, ?_, ?_, ?_, fun k hk => ?_, fun k k' j h1 h2 => ?_, fun j e hj => ?_, fun j k e f hj hk hje hke hjk a ha => ?_, fun j e hj hen => ?_, ?_, ?_, fun e he2 => ?_, fun e he2 => ?_⟩
  · show 0 ≤ x.now + 1; omega
  · show 0 ≤ x.puts ∧ x.puts ≤ ((x.ds.set i d').length : Int); rw [List.length_set]; exact h.puts
  · show bs'.length = 64
    rcases hL with ⟨-, e, -⟩ | ⟨-, e, -⟩
    · rw [e]; exact h.bsl
    · rw [e, List.length_set]; exact h.bsl
  · show bs'[k]? = some (-1) ∨ ∃ (j : Nat) (e : Dd), bs'[k]? = some (j : Int) ∧ (x.ds.set i d')[j]? = some e ∧ e.en = false
    rcases hL with ⟨e0, e1, -⟩ | ⟨e0, e1, -⟩
    · rw [e1]
      rcases h.bs k hk with h1 | ⟨j, e, h1, h2, h3⟩
      · exact Or.inl h1
      · by_cases hji : i = j
        · subst hji
          exact Or.inr ⟨i, _, h1, List.getElem?_set_self hi, e0⟩
        · exact Or.inr ⟨j, e, h1, (List.getElem?_set_ne hji).trans h2, h3⟩
    · rw [e1]
      by_cases hkc : c = k
      · subst hkc; exact Or.inl (List.getElem?_set_self hcb)
      · rw [List.getElem?_set_ne hkc]
        rcases h.bs k hk with h1 | ⟨j, e, h1, h2, h3⟩
        · exact Or.inl h1
        · have hji : i ≠ j := fun e1 => hkc (h.inj c k i hb (by rw [e1]; exact h1))
          exact Or.inr ⟨j, e, h1, (List.getElem?_set_ne hji).trans h2, h3⟩
  · replace h1 : bs'[k]? = some (j : Int) := h1
    replace h2 : bs'[k']? = some (j : Int) := h2
    rcases hL with ⟨-, e1, -⟩ | ⟨-, e1, -⟩
    · rw [e1] at h1 h2; exact h.inj k k' j h1 h2
    · rw [e1] at h1 h2
      have ne : ∀ m : Nat, (x.bs.set c (-1))[m]? = some (j : Int) → c ≠ m ∧ x.bs[m]? = some (j : Int) := fun m hm => by
        by_cases e : c = m
        · subst e; rw [List.getElem?_set_self hcb] at hm; have := Option.some.inj hm; omega
        · exact ⟨e, by rw [List.getElem?_set_ne e] at hm; exact hm⟩
      exact h.inj k k' j (ne k h1).2 (ne k' h2).2
  · show DdOk t' T' U' V' o' (x.now + 1) (upS S i s' j) e
    replace hj : (x.ds.set i d')[j]? = some e := hj
    by_cases hji : i = j
    · subst hji
      rw [List.getElem?_set_self hi] at hj
      cases hj
      rw [upeq]
      refine ⟨by rw [hop.1, hop.2.1, hop.2.2]; exact hD.op, ?_, fun τ hτ => ?_, ?_, hkl, fun e1 => ?_, fun e1 => ?_⟩
      · rw [hts, List.length_append, List.length_singleton]; have := hD.nt; omega
      · rw [hts] at hτ
        rcases List.mem_append.1 hτ with h1 | h1
        · have := hD.lt τ h1; omega
        · rw [List.mem_singleton] at h1; omega
      · rw [hts, List.pairwise_append]
        exact ⟨hD.tp, by simp, fun a ha b hb => by rw [List.mem_singleton] at hb; have := hD.lt a ha; omega⟩
      · rcases hL with ⟨-, -, hl⟩ | ⟨e2, -⟩
        · exact hl
        · rw [e2] at e1; cases e1
      · rcases hL with ⟨e2, -⟩ | ⟨-, -, hl⟩
        · rw [e2] at e1; cases e1
        · exact hl
    · rw [List.getElem?_set_ne hji] at hj
      rw [upne j (fun e => hji e.symm)]
      have hE := h.ds j e hj
      have ha : ∀ τ ∈ e.ts, ahead o' τ = ahead o τ := fun τ hτ => hO.ahead (hE.lt τ hτ).2
      exact ⟨hE.op, by have := hE.nt; omega, fun τ hτ => by have := hE.lt τ hτ; omega, hE.tp, hE.kl, fun h1 => (hE.lv h1).other C hLv.spr h.say (h.apart i j d e hd hj he h1 hji) ha, fun h1 => (hE.ed h1).mono ha⟩
  · replace hj : (x.ds.set i d')[j]? = some e := hj
    replace hk : (x.ds.set i d')[k]? = some f := hk
    intro hb2
    by_cases hji : i = j
    · subst hji
      have hki : i ≠ k := hjk
      rw [List.getElem?_set_ne hki] at hk
      rw [upeq] at ha
      rw [upne k (Ne.symm hki)] at hb2
      rcases hsp a ha with h1 | ⟨p, rfl, h1⟩
      · exact h.apart i k d f hd hk he hke hki a h1 hb2
      · exact hfree k f p hk hke hb2 h1
    · rw [List.getElem?_set_ne hji] at hj
      rw [upne j (Ne.symm hji)] at ha
      by_cases hki : i = k
      · subst hki
        rw [upeq] at hb2
        rcases hsp a hb2 with h1 | ⟨p, rfl, h1⟩
        · exact h.apart j i e d hj hd hje he hjk a ha h1
        · exact hfree j e p hj hje ha h1
      · rw [List.getElem?_set_ne hki] at hk
        rw [upne k (Ne.symm hki)] at hb2
        exact h.apart j k e f hj hk hje hke hjk a ha hb2
  · replace hj : (x.ds.set i d')[j]? = some e := hj
    show ∃ k, k < 64 ∧ bs'[k]? = some (j : Int)
    by_cases hji : i = j
    · subst hji
      rw [List.getElem?_set_self hi] at hj
      cases hj
      rcases hL with ⟨-, e1, -⟩ | ⟨e2, -⟩
      · rw [e1]; exact h.own i d hd he
      · rw [e2] at hen; cases hen
    · rw [List.getElem?_set_ne hji] at hj
      obtain ⟨k, h1, h2⟩ := h.own j e hj hen
      rcases hL with ⟨-, e1, -⟩ | ⟨-, e1, -⟩
      · rw [e1]; exact ⟨k, h1, h2⟩
      · rw [e1]
        have hkc : c ≠ k := fun e => by subst e; rw [hb] at h2; have := Option.some.inj h2; omega
        exact ⟨k, h1, by rw [List.getElem?_set_ne hkc]; exact h2⟩
  · rcases hO with ⟨-, e⟩ | ⟨-, e, -, e1, e2, -⟩
    · rw [e]; exact h.os
    · rw [e1, List.pairwise_append]
      exact ⟨h.os, by simp, fun a ha b hb => by rw [List.mem_singleton] at hb; subst hb; have := h.ot a ha; omega⟩
  · show o'.Perm (effs (upS S i s') (x.ds.set i d'))
    have hlen : (x.ds.set i d').length = x.ds.length := List.length_set
    have e0 : ∀ j, j ≠ i → effA (upS S i s') (x.ds.set i d') j = effA S x.ds j := fun j hj => by
      unfold effA; rw [upne j hj, List.getElem?_set_ne (Ne.symm hj)]
    have e1 : effA (upS S i s') (x.ds.set i d') i = effD s' d' := by unfold effA; rw [upeq, List.getElem?_set_self hi]; rfl
    have e2 : effA S x.ds i = effD (S i) d := by unfold effA; rw [hd]; rfl
    unfold effs
    rw [hlen]
    rcases hO with ⟨k1, k2⟩ | ⟨k1, e, k2, k3, -⟩
    · rw [k2, fm_same (effA S x.ds) (effA (upS S i s') (x.ds.set i d')) _ fun j _ => ?_]
      · exact h.op
      · by_cases hj : j = i
        · subst hj; rw [e1, e2, k1]
        · exact e0 j hj
    · rw [k3]
      exact (List.Perm.append_right _ h.op).trans (fm_new _ _ _ i e hi (by rw [e2, k1]) (by rw [e1, k2]) e0)
  · show e.t < x.now + 1
    rcases hO with ⟨-, k⟩ | ⟨-, e1, -, k, k2, -⟩
    · rw [k] at he2; have := h.ot e he2; omega
    · rw [k] at he2
      rcases List.mem_append.1 he2 with h1 | h1
      · have := h.ot e h1; omega
      · rw [List.mem_singleton] at h1; subst h1; omega
  · rcases hO with ⟨-, k⟩ | ⟨-, e1, -, k, -, k2⟩
    · rw [k] at he2; exact h.ok e he2
    · rw [k] at he2
      rcases List.mem_append.1 he2 with h1 | h1
      · exact h.ok e h1
      · rw [List.mem_singleton] at h1; subst h1; exact k2
end Go.Proofs.YtajobgmnmbnhiaaGreatDoor.Sap
