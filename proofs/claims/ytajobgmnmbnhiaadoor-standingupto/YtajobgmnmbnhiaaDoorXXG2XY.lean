/- WHAT IS PROVED HERE: when all operations have ended, each has answered as a map does that those ahead of it have made; the pieces of a Scan (no program's function is walked). Conditions: none but those named at each theorem. -/
import Derived.Test.YtajobgmnmbnhiaaDoorXJ3Q2
import Derived.Test.YtajobgmnmbnhiaaDoorXXDXF
import Derived.Test.YtajobgmnmbnhiaaDoorXXGXT
namespace Go.Proofs.YtajobgmnmbnhiaaDoor.Sap
open Go.RowKit

theorem Inv.sin {wt : Bool} {gw : Nat} {x : Wd} {t : Tre} {S : Nat → St} {o : List Dn} (h : Inv wt gw x t S o) (hid : ∀ c, c < 64 → x.bs[c]? = some (-1)) : ∀ d ∈ x.ds, d.k ≠ 4 → SinOk x d := by
  intro d hd hk
  obtain ⟨i, hi⟩ := List.mem_iff_getElem?.1 hd
  obtain ⟨he, hD⟩ := h.allEnded hid i d hi
  have hE := hD.ed he
  rcases hE.an with ⟨h4, -⟩ | ⟨-, h1, h2, h3, h5⟩
  · exact absurd h4 hk
  · refine ⟨h1, h2, h3, ?_⟩
    rcases h5 with h5 | ⟨e0, e1, e2⟩
    · exact Or.inl h5
    · refine Or.inr ⟨e0, fun o' hp hs fd v hV => ?_⟩
      rw [h.uniq hid hp hs] at hV
      obtain ⟨a1, a2, a3⟩ := tabO_look (ahead o (d.ts[d.pt.toNat]?.getD 0)) (ahead_ok h.ok _)
      obtain ⟨b1, b2⟩ := valR_look a1 a2 hV
      rw [a3] at b1 b2
      exact ⟨e1.trans b1.symm, e2.trans b2.symm⟩

theorem perm_len {a b : List Int} (ha : a.Nodup) (hb : b.Nodup) (h : ∀ q, q ∈ a ↔ q ∈ b) : a.length = b.length := ((List.perm_ext_iff_of_nodup ha hb).2 h).length_eq
theorem cnt_split (ks : List Int) (a b : Int) (h : a ≤ b) : (ks.filter fun q => decide (q < a)).length + (ks.filter fun q => decide (a ≤ q) && decide (q < b)).length = (ks.filter fun q => decide (q < b)).length := by
  induction ks with
  | nil => rfl
  | cons x r ih =>
    rw [List.filter_cons, List.filter_cons, List.filter_cons]
    by_cases h1 : x < a
    · rw [if_pos (show decide (x < a) = true by simp [h1]), if_neg (show ¬ (decide (a ≤ x) && decide (x < b)) = true by simp; omega), if_pos (show decide (x < b) = true by simp; omega), List.length_cons, List.length_cons]
      omega
    · rw [if_neg (show ¬ decide (x < a) = true by simp; omega)]
      by_cases h2 : x < b
      · rw [if_pos (show (decide (a ≤ x) && decide (x < b)) = true by simp; omega), if_pos (show decide (x < b) = true by simp [h2]), List.length_cons, List.length_cons]
        omega
      · rw [if_neg (show ¬ (decide (a ≤ x) && decide (x < b)) = true by simp; omega), if_neg (show ¬ decide (x < b) = true by simp; omega)]
        exact ih
theorem Scn.up {o : List Dn} {ts : List Int} {key val : Int} {keys vals bel pts : List Int} (h : Scn o ts key val keys vals bel pts) (d j : Nat) (hj : j + d ≤ bel.length) : fromV bel key j ≤ fromV bel key (j + d) := by
  induction d with
  | zero => exact Int.le_refl _
  | succ d ih => have := ih (by omega); have := (h.bp (j + d) (by omega)).1; rw [← Nat.add_assoc]; omega
theorem Inv.pcs {wt : Bool} {gw : Nat} {x : Wd} {t : Tre} {S : Nat → St} {o : List Dn} (h : Inv wt gw x t S o) (hid : ∀ c, c < 64 → x.bs[c]? = some (-1)) : ∀ d ∈ x.ds, d.k = 4 → PcsOk x d := by
  intro d hd hk
  obtain ⟨i0, hi0⟩ := List.mem_iff_getElem?.1 hd
  obtain ⟨he, hD⟩ := h.allEnded hid i0 d hi0
  have hE := hD.ed he
  rcases hE.an with ⟨-, bel, pts, A⟩ | ⟨h4, -⟩
  case inr => exact absurd hk h4
  have hop := opR_parts hD.op
  have C := A.sc
  obtain ⟨m, hm⟩ : ∃ m, bel.length = m + 1 := ⟨bel.length - 1, by have := A.b0; omega⟩
  have b64 := A.b64
  have hbl := C.bl
  have h1b := C.up bel.length 0 (by omega)
  have h0b := (C.bp m (by omega))
  have hkm := C.up m 0 (by omega)
  rw [Nat.zero_add] at h1b hkm
  have hf0 : fromV bel d.key 0 = d.key := rfl
  refine ⟨m, bel, pts, fromV bel d.key (m + 1), fun i => (d.ks.filter fun q => decide (q < fromV bel d.key i)).length, ⟨A.er, A.fd, A.va, A.cs, hm, by omega, by omega, C.kl, ?_, ?_, rfl, A.pt, fun i hi => ?_, fun i hi => ?_, ⟨by omega, h0b.2⟩, A.k12, ?_, by omega, by omega, by omega⟩⟩
  · have : d.ks.filter (fun q => decide (q < fromV bel d.key 0)) = [] := List.filter_eq_nil_iff.2 fun q hq => by have := (C.inn q hq).1; rw [hf0]; simp; omega
    show (d.ks.filter fun q => decide (q < fromV bel d.key 0)).length = 0
    rw [this]; rfl
  · have : d.ks.filter (fun q => decide (q < fromV bel d.key (m + 1))) = d.ks := List.filter_eq_self.2 fun q hq => by have := (C.inn q hq).2; rw [hm] at this; simpa using this
    show (d.ks.filter fun q => decide (q < fromV bel d.key (m + 1))).length = _
    rw [this]
  · have hib : i < bel.length := by omega
    have hip : i < pts.length := by omega
    have hpm : pts[i] ∈ pts := List.getElem_mem hip
    have hpb := C.pb _ hpm
    have e0 : pts[i]?.getD 0 = pts[i] := by rw [List.getElem?_eq_getElem hip]; rfl
    refine ⟨pts[i].toNat, fromV bel d.key (i + 1), (d.ks.filter fun q => decide (fromV bel d.key i ≤ q) && decide (q < fromV bel d.key (i + 1))).length, fun o' hp hs => ?_⟩
    rw [h.uniq hid hp hs]
    have hpc := fun q u => C.pc i q u hib
    rw [e0] at hpc
    obtain ⟨a1, a2, a3⟩ := tabO_look (ahead o (d.ts[pts[i].toNat]?.getD 0)) (ahead_ok h.ok _)
    have hbp := C.bp i hib
    have hcs := cnt_split d.ks (fromV bel d.key i) (fromV bel d.key (i + 1)) (by omega)
    refine ⟨by rw [List.getElem?_eq_getElem hip]; congr 1; omega, by omega, ?_, ?_, hbp.1, hbp.2, ?_, hcs, List.length_filter_le _ _, fun j hj => ?_⟩
    · show bel[i]? = some (bel[i]?.getD 0)
      rw [List.getElem?_eq_getElem hib]; rfl
    · have hmem : d.ts[pts[i].toNat]?.getD 0 ∈ d.ts := ts_mem hpb
      cases i with
      | zero => show (-1 : Int) < _; have := (hD.lt _ hmem).1; omega
      | succ i =>
        show d.ts[(pts[i]?.getD 0).toNat]?.getD 0 < d.ts[pts[i + 1].toNat]?.getD 0
        have hi2 : i < pts.length := by omega
        rw [List.getElem?_eq_getElem hi2]
        have hpb2 := C.pb _ (List.getElem_mem hi2)
        have hlt := List.pairwise_iff_getElem.1 C.pp i (i + 1) hi2 hip (by omega)
        show d.ts[pts[i].toNat]?.getD 0 < _
        rw [List.getElem?_eq_getElem (show pts[i].toNat < d.ts.length by omega), List.getElem?_eq_getElem (show pts[i + 1].toNat < d.ts.length by omega)]
        exact List.pairwise_iff_getElem.1 hD.tp _ _ (by omega) (by omega) (by omega)
    · unfold cntW
      rw [List.take_length]
      have hnd : d.ks.Nodup := C.asc.imp fun h e => by omega
      refine perm_len (a1.filter _) (hnd.filter _) fun q => ?_
      rw [List.mem_filter, List.mem_filter]
      simp only [Bool.and_eq_true, decide_eq_true_eq]
      have hnz : (((tabO (ahead o (d.ts[pts[i].toNat]?.getD 0))).1.zip (tabO (ahead o (d.ts[pts[i].toNat]?.getD 0))).2).map Prod.fst).Nodup := by rw [fst_zip a2]; exact a1
      constructor
      · rintro ⟨h1, h2, h3⟩
        obtain ⟨u, hu⟩ : ∃ u, (q, u) ∈ (tabO (ahead o (d.ts[pts[i].toNat]?.getD 0))).1.zip (tabO (ahead o (d.ts[pts[i].toNat]?.getD 0))).2 := by
          rw [← fst_zip a2] at h1
          obtain ⟨y, hy, rfl⟩ := List.mem_map.1 h1
          exact ⟨y.2, hy⟩
        have := look_mem hnz hu
        rw [a3] at this
        exact ⟨(List.of_mem_zip ((hpc q u h2 h3).2 this)).1, h2, h3⟩
      · rintro ⟨h1, h2, h3⟩
        rw [← fst_zip C.kl] at h1
        obtain ⟨y, hy, rfl⟩ := List.mem_map.1 h1
        have b3 := (hpc y.1 y.2 h2 h3).1 hy
        rw [← a3] at b3
        exact ⟨(List.of_mem_zip (mem_look b3)).1, h2, h3⟩
    · have hle := List.length_filter_le (fun q => decide (q < fromV bel d.key (i + 1))) d.ks
      have hjl : (d.ks.filter fun q => decide (q < fromV bel d.key i)).length + j < d.ks.length := by omega
      have g1 := sorted_idx C.asc (fromV bel d.key i) _ hjl
      have g2 := sorted_idx C.asc (fromV bel d.key (i + 1)) _ hjl
      obtain ⟨J, hJ⟩ : ∃ J, (d.ks.filter fun q => decide (q < fromV bel d.key i)).length + j = J := ⟨_, rfl⟩
      have hkl := C.kl
      show fromV bel d.key i ≤ d.ks[(d.ks.filter fun q => decide (q < fromV bel d.key i)).length + j]?.getD 0 ∧ d.ks[(d.ks.filter fun q => decide (q < fromV bel d.key i)).length + j]?.getD 0 < fromV bel d.key (i + 1) ∧ ∀ fd v, ValR _ _ (d.ks[(d.ks.filter fun q => decide (q < fromV bel d.key i)).length + j]?.getD 0) fd v → fd = true ∧ v = d.vs[(d.ks.filter fun q => decide (q < fromV bel d.key i)).length + j]?.getD 0
      rw [List.getElem?_eq_getElem hjl, List.getElem?_eq_getElem (show (d.ks.filter fun q => decide (q < fromV bel d.key i)).length + j < d.vs.length by omega)]
      have k1 : ¬ d.ks[(d.ks.filter fun q => decide (q < fromV bel d.key i)).length + j] < fromV bel d.key i := fun e => by have := g1.1 e; omega
      have k2 : d.ks[(d.ks.filter fun q => decide (q < fromV bel d.key i)).length + j] < fromV bel d.key (i + 1) := g2.2 (by omega)
      refine ⟨by show fromV bel d.key i ≤ d.ks[_]; omega, k2, fun fd v hV => ?_⟩
      obtain ⟨c1, c2⟩ := valR_look a1 a2 hV
      rw [a3] at c1 c2
      have hz2 : (d.ks[(d.ks.filter fun q => decide (q < fromV bel d.key i)).length + j], d.vs[(d.ks.filter fun q => decide (q < fromV bel d.key i)).length + j]'(by omega)) ∈ d.ks.zip d.vs := List.mem_iff_getElem?.2 ⟨_, by rw [List.getElem?_zip_eq_some]; exact ⟨List.getElem?_eq_getElem hjl, List.getElem?_eq_getElem _⟩⟩
      have b4 := (hpc _ _ (by omega) k2).1 hz2
      have b5 : mapO (ahead o (d.ts[pts[i].toNat]?.getD 0)) ((some d.ks[(d.ks.filter fun q => decide (q < fromV bel d.key i)).length + j]).getD 0) = some (d.vs[(d.ks.filter fun q => decide (q < fromV bel d.key i)).length + j]'(by omega)) := b4
      rw [b5] at c1 c2
      exact ⟨c1, c2⟩
  · have := List.pairwise_iff_getElem.1 C.asc i (i + 1) (by omega) hi (by omega)
    rw [List.getElem?_eq_getElem (show i < d.ks.length by omega), List.getElem?_eq_getElem hi]
    exact this
  · rw [← hm]; exact A.en
end Go.Proofs.YtajobgmnmbnhiaaDoor.Sap

/- WHAT IS PROVED HERE: plain facts: the leaves, one behind the other by links, have the keys of the map in their order, and what it has for them (no program's function is walked). Conditions: none but those named at each theorem. -/
namespace Go.Proofs.YtajobgmnmbnhiaaDoor.Sap
open Go.RowKit

/-- A key is in some node of a level. -/
theorem cover_ex {t : Tre} (h : t.Ok) {key : Int} (h9 : key < 10000) : ∀ (n : Nat) (p : Nat) (m : Nat → Nat), (∀ p q, t.inn q → Nearer t q p → m q < m p) → m p ≤ n → t.inn p → t.low p ≤ key → ∃ q, t.inn q ∧ (t.nd q).lv = (t.nd p).lv ∧ t.low q ≤ key ∧ key < (t.nd q).hi := by
  intro n
  induction n using Nat.strongRecOn with
  | ind n ih =>
    intro p m hm hn hp hl
    by_cases hh : key < (t.nd p).hi
    · exact ⟨p, hp, rfl, hl, hh⟩
    · obtain ⟨r, r1, r2, r3, r4⟩ := h.lnk p hp (by omega)
      have hmr := hm p r r2 (Or.inr ⟨r4, by rw [r3]; exact (h.lo p hp).2⟩)
      obtain ⟨q, q1, q2, q3⟩ := ih (m r) (by omega) r m hm (Nat.le_refl _) r2 (by omega)
      exact ⟨q, q1, by rw [q2, r4], q3⟩
theorem mapO_key {o : List Dn} {q u : Int} (h : mapO o q = some u) : ∃ e ∈ o, e.key = q := by
  obtain ⟨r, hr⟩ : ∃ r, o = r.reverse := ⟨o.reverse, by simp⟩
  induction r generalizing o with
  | nil => subst hr; cases h
  | cons e r ih =>
    rw [List.reverse_cons] at hr
    subst hr
    rw [mapO_snoc] at h
    by_cases hq : q = e.key
    · exact ⟨e, by simp, hq.symm⟩
    · rw [upd_ne hq] at h
      obtain ⟨e', h1, h2⟩ := ih h rfl
      exact ⟨e', by simp at h1 ⊢; exact Or.inl h1, h2⟩
/-- What the operations did is of right keys. -/
theorem Inv.okeys {wt : Bool} {gw : Nat} {x : Wd} {t : Tre} {S : Nat → St} {o : List Dn} (h : Inv wt gw x t S o) : ∀ e ∈ o, 1 ≤ e.key ∧ e.key ≤ 9999 := by
  intro e he
  have h1 := h.op.mem_iff.1 he
  unfold effs at h1
  obtain ⟨i, -, hi⟩ := List.mem_filterMap.1 h1
  unfold effA at hi
  cases hd : x.ds[i]? with
  | none => rw [hd] at hi; cases hi
  | some d =>
    rw [hd] at hi
    have hk : e.key = d.key := by
      have hi2 : effD (S i) d = some e := hi
      unfold effD at hi2
      split at hi2
      · unfold tkD at hi2
        split at hi2
        · cases hi2; rfl
        · cases hi2
      · split at hi2
        · cases hi2; rfl
        · cases hi2
    have := opR_parts (h.ds i d hd).op
    rw [hk]; omega
def rowK (t : Tre) (ps : List Nat) : List Int := ps.flatMap fun p => (t.nd p).ks
def rowV (t : Tre) (ps : List Nat) : List Int := ps.flatMap fun p => (t.nd p).vs
theorem row_zip {t : Tre} {ps : List Nat} (h : ∀ p ∈ ps, (t.nd p).ks.length = (t.nd p).vs.length) : (rowK t ps).length = (rowV t ps).length ∧ (rowK t ps).zip (rowV t ps) = ps.flatMap fun p => ent (t.nd p) := by
  induction ps with
  | nil => exact ⟨rfl, rfl⟩
  | cons a r ih =>
    obtain ⟨h1, h2⟩ := ih fun p hp => h p (by simp [hp])
    have ha := h a (by simp)
    unfold rowK rowV at h1 h2 ⊢
    rw [List.flatMap_cons, List.flatMap_cons, List.flatMap_cons, List.length_append, List.length_append]
    exact ⟨by omega, by rw [List.zip_append ha, h2]; rfl⟩
/-- The leaves are the map. -/
theorem leaf_row {t : Tre} (h : t.Ok) {o : List Dn} (L : Leafs t (mapO o)) (ho : ∀ e ∈ o, 1 ≤ e.key ∧ e.key ≤ 9999) {p : Nat} {ps : List Nat} (R : RowF t 0 p ps) (hall : ∀ q, t.inn q → (t.nd q).lv = 0 → q ∈ ps) :
    (rowK t ps).length = (rowV t ps).length ∧ (rowK t ps).Pairwise (· < ·) ∧ ∀ q u, (q, u) ∈ (rowK t ps).zip (rowV t ps) ↔ mapO o q = some u := by
  have hz := row_zip (t := t) (ps := ps) fun q hq => (right_bd _ (h.rt q (R.inn q hq).1)).2.2.2.1
  refine ⟨hz.1, ?_, fun q u => ?_⟩
  · unfold rowK
    refine List.pairwise_flatMap.2 ⟨fun q hq => right_pw _ (h.rt q (R.inn q hq).1), ?_⟩
    refine List.Pairwise.imp_of_mem (fun {a b} ha hb hab x hx y hy => ?_) R.pw
    obtain ⟨ai, al⟩ := R.inn a ha
    obtain ⟨bi, bl⟩ := R.inn b hb
    have h1 := (right_kb _ (h.rt a ai) x hx).2
    have h2 := h.ks b bi y hy
    have h3 := h.lo a ai
    have h4 := h.lo b bi
    rcases h.dis a b ai bi (by omega) (fun e => by subst e; omega) with h5 | h5 <;> omega
  · rw [hz.2, List.mem_flatMap]
    constructor
    · rintro ⟨a, ha, hm⟩
      obtain ⟨ai, al⟩ := R.inn a ha
      have hk := (ent_key hm).1
      rw [← L a ai al q (h.ks a ai q hk) (right_kb _ (h.rt a ai) q hk).2]
      exact (lmap_mem (h.rt a ai) q u).1 hm
    · intro hm
      obtain ⟨e, e1, e2⟩ := mapO_key hm
      have hk := ho e e1
      obtain ⟨m, -, hmm⟩ := rank_ex t h
      have hp0 : p ∈ ps := List.mem_of_getElem? R.hd
      obtain ⟨pi, pl⟩ := R.inn p hp0
      obtain ⟨p0, q1, q2, q3⟩ : ∃ p0, t.inn p0 ∧ (t.nd p0).lv = 0 ∧ t.low p0 ≤ q := by
        rcases Int.decLe (t.low p) q with hlt | hle
        · exact ⟨p, pi, pl, by
            exfalso
            obtain ⟨z, z1, z2, z3⟩ : ∃ z, t.inn z ∧ (t.nd z).lv = 0 ∧ t.low z = 0 := by
              have key : ∀ (n : Nat) (y : Nat), (t.low y).toNat ≤ n → t.inn y → (t.nd y).lv = 0 → ∃ z, t.inn z ∧ (t.nd z).lv = 0 ∧ t.low z = 0 := by
                intro n
                induction n with
                | zero => intro y hy yi yl; exact ⟨y, yi, yl, by have := h.lo y yi; omega⟩
                | succ n ih =>
                  intro y hy yi yl
                  by_cases hy0 : t.low y = 0
                  · exact ⟨y, yi, yl, hy0⟩
                  · obtain ⟨w, w1, w2, w3⟩ := h.prd y yi (by have := h.lo y yi; omega)
                    exact ih w (by have := h.lo w w1; omega) w1 (by omega)
              exact key _ p (Nat.le_refl _) pi pl
            have hzp := R.ge z (hall z z1 z2)
            omega⟩
        · exact ⟨p, pi, pl, hle⟩
      obtain ⟨a, a1, a2, a3, a4⟩ := cover_ex h (key := q) (by omega) _ p0 m hmm (Nat.le_refl _) q1 q3
      refine ⟨a, hall a a1 (by omega), ?_⟩
      rw [lmap_mem (h.rt a a1), L a a1 (by omega) q a3 a4]
      exact hm
end Go.Proofs.YtajobgmnmbnhiaaDoor.Sap

/- WHAT IS PROVED HERE: plain facts on the rows of two levels, as saplingkeep's rows asks for them (no program's function is walked). Conditions: none but those named at each theorem. -/
namespace Go.Proofs.YtajobgmnmbnhiaaDoor.Sap
open Go.RowKit

/-- The first key of a node in a row is the High of the one ahead of it. -/
theorem RowF.first {t : Tre} (h : t.Ok) {l : Int} {p : Nat} {ps : List Nat} (R : RowF t l p ps) (h0 : t.low p = 0) (hl : 0 < l) {i q : Nat} (hi : ps[i]? = some q) : ∃ a r, (t.nd q).ks = a :: r ∧ ((i = 0 ∧ a = 0) ∨ ∃ b, 0 < i ∧ ps[i - 1]? = some b ∧ a = (t.nd b).hi) := by
  obtain ⟨qi, ql⟩ := R.inn q (List.mem_of_getElem? hi)
  have hf := h.fst q qi (by omega)
  cases hks : (t.nd q).ks with
  | nil => rw [hks] at hf; cases hf
  | cons a r =>
    rw [hks] at hf
    have ea : a = t.low q := Option.some.inj hf
    refine ⟨a, r, rfl, ?_⟩
    cases i with
    | zero =>
      rw [R.hd] at hi
      have e := Option.some.inj hi
      subst e
      exact Or.inl ⟨rfl, by omega⟩
    | succ i =>
      have hlt : i < ps.length := by have := (List.getElem?_eq_some_iff.1 hi).1; omega
      refine Or.inr ⟨ps[i], by omega, List.getElem?_eq_getElem hlt, ?_⟩
      rw [ea]
      exact R.nx i _ q (List.getElem?_eq_getElem hlt) hi
/-- Each child is in the row below, and the one ahead of it there has no High above the child's key. -/
theorem RowF.child {t : Tre} (h : t.Ok) {l : Int} {p : Nat} {ps : List Nat} (R : RowF t l p ps) (hl : 0 < l) {b : Nat} {qs : List Nat} (Q : RowF t (l - 1) b qs) (hall : ∀ q, t.inn q → (t.nd q).lv = l - 1 → q ∈ qs) {q : Nat} (hq : q ∈ ps) {key v : Int} (he : (key, v) ∈ ent (t.nd q)) : ∃ c j : Nat, v = (c : Int) ∧ qs[j]? = some c ∧ (∀ j', j' < j → qs[j']? ≠ some c) ∧ (j = 0 ∨ ∃ a, qs[j - 1]? = some a ∧ (t.nd a).hi ≤ key) := by
  obtain ⟨qi, ql⟩ := R.inn q hq
  obtain ⟨c, c1, c2, c3, c4⟩ := h.chd q qi (by omega) (key, v) he
  obtain ⟨j, hj⟩ := List.mem_iff_getElem?.1 (hall c c2 (by omega))
  refine ⟨c, j, c1, hj, fun j' hj' e => ?_, ?_⟩
  · obtain ⟨u1, u2⟩ := List.getElem?_eq_some_iff.1 hj
    obtain ⟨v1, v2⟩ := List.getElem?_eq_some_iff.1 e
    have := List.pairwise_iff_getElem.1 Q.pw j' j v1 u1 hj'
    rw [u2, v2] at this
    omega
  · cases j with
    | zero => exact Or.inl rfl
    | succ j =>
      have hlt : j < qs.length := by have := (List.getElem?_eq_some_iff.1 hj).1; omega
      refine Or.inr ⟨qs[j], List.getElem?_eq_getElem hlt, ?_⟩
      have := Q.nx j _ c (List.getElem?_eq_getElem hlt) hj
      have e : t.low c = key := c3
      omega
end Go.Proofs.YtajobgmnmbnhiaaDoor.Sap
