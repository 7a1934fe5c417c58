/- WHAT IS PROVED HERE: plain facts: the leaves, one behind the other by links, have the keys of the map in their order, and what it has for them (no program's function is walked). Conditions: none but those named at each theorem. -/
import Derived.Test.YtajobgmnmbnhiaaDoorPt40
import Derived.Test.YtajobgmnmbnhiaaDoorPt53
import Derived.Deep.AppendLies
import Derived.Deep.RegionLaw
import Derived.Laws.OwnMore
namespace Go.Proofs.YtajobgmnmbnhiaaDoor.Sap
open Go.RowKit
theorem cover_ex {t : Tre} (h : t.Ok) {key : Int} (h9 : key < 10000) : ∀ (n : Nat) (p : Nat) (m : Nat → Nat), (∀ p q, t.inn q → Nearer t q p → m q < m p) → m p ≤ n → t.inn p → t.low p ≤ key → ∃ q, t.inn q ∧ (t.nd q).lv = (t.nd p).lv ∧ t.low q ≤ key ∧ key < (t.nd q).hi := by
  intro n
  induction n using Nat.strongRecOn with
  | ind n ih =>
    intro p m hm hn hp hl
    by_cases hh : key < (t.nd p).hi
    · exact ⟨p, hp, rfl, hl, hh⟩
    · obtain ⟨r, r1, r2, r3, r4⟩ := h.lnk p hp (by omega)
      have hmr := hm p r r2 (Or.inr ⟨r4, by rw [r3]; exact (h.lo p hp).2⟩)
      obtain ⟨q, q1, q2, q3⟩ := ih (m r) (by omega) r m hm (Nat.le_refl _) r2 (by omega)
      exact ⟨q, q1, by rw [q2, r4], q3⟩
theorem mapO_key {o : List Dn} {q u : Int} (h : mapO o q = some u) : ∃ e ∈ o, e.key = q := by
  obtain ⟨r, hr⟩ : ∃ r, o = r.reverse := ⟨o.reverse, by simp⟩
  induction r generalizing o with
  | nil => subst hr; cases h
  | cons e r ih =>
    rw [List.reverse_cons] at hr
    subst hr
    rw [mapO_snoc] at h
    by_cases hq : q = e.key
    · exact ⟨e, by simp, hq.symm⟩
    · rw [upd_ne hq] at h
      obtain ⟨e', h1, h2⟩ := ih h rfl
      exact ⟨e', by simp at h1 ⊢; exact Or.inl h1, h2⟩
theorem Inv.okeys {wt : Bool} {gw : Nat} {x : Wd} {t : Tre} {S : Nat → St} {o : List Dn} (h : Inv wt gw x t S o) : ∀ e ∈ o, 1 ≤ e.key ∧ e.key ≤ 9999 := by
  intro e he
  have h1 := h.op.mem_iff.1 he
  unfold effs at h1
  obtain ⟨i, -, hi⟩ := List.mem_filterMap.1 h1
  unfold effA at hi
  cases hd : x.ds[i]? with
  | none => rw [hd] at hi; cases hi
  | some d =>
    rw [hd] at hi
    have hk : e.key = d.key := by
      have hi2 : effD (S i) d = some e := hi
      unfold effD at hi2
      split at hi2
      · unfold tkD at hi2
        split at hi2
        · cases hi2; rfl
        · cases hi2
      · split at hi2
        · cases hi2; rfl
        · cases hi2
    have := opR_parts (h.ds i d hd).op
    rw [hk]; omega
def rowK (t : Tre) (ps : List Nat) : List Int := ps.flatMap fun p => (t.nd p).ks
def rowV (t : Tre) (ps : List Nat) : List Int := ps.flatMap fun p => (t.nd p).vs
theorem row_zip {t : Tre} {ps : List Nat} (h : ∀ p ∈ ps, (t.nd p).ks.length = (t.nd p).vs.length) : (rowK t ps).length = (rowV t ps).length ∧ (rowK t ps).zip (rowV t ps) = ps.flatMap fun p => ent (t.nd p) := by
  induction ps with
  | nil => exact ⟨rfl, rfl⟩
  | cons a r ih =>
    obtain ⟨h1, h2⟩ := ih fun p hp => h p (by simp [hp])
    have ha := h a (by simp)
    unfold rowK rowV at h1 h2 ⊢
    rw [List.flatMap_cons, List.flatMap_cons, List.flatMap_cons, List.length_append, List.length_append]
    exact ⟨by omega, by rw [List.zip_append ha, h2]; rfl⟩
theorem leaf_row {t : Tre} (h : t.Ok) {o : List Dn} (L : Leafs t (mapO o)) (ho : ∀ e ∈ o, 1 ≤ e.key ∧ e.key ≤ 9999) {p : Nat} {ps : List Nat} (R : RowF t 0 p ps) (hall : ∀ q, t.inn q → (t.nd q).lv = 0 → q ∈ ps) :
    (rowK t ps).length = (rowV t ps).length ∧ (rowK t ps).Pairwise (· < ·) ∧ ∀ q u, (q, u) ∈ (rowK t ps).zip (rowV t ps) ↔ mapO o q = some u := by
  have hz := row_zip (t := t) (ps := ps) fun q hq => (right_bd _ (h.rt q (R.inn q hq).1)).2.2.2.1
  refine ⟨hz.1, ?_, fun q u => ?_⟩
  · unfold rowK
    refine List.pairwise_flatMap.2 ⟨fun q hq => right_pw _ (h.rt q (R.inn q hq).1), ?_⟩
    refine List.Pairwise.imp_of_mem (fun {a b} ha hb hab x hx y hy => ?_) R.pw
    obtain ⟨ai, al⟩ := R.inn a ha
    obtain ⟨bi, bl⟩ := R.inn b hb
    have h1 := (right_kb _ (h.rt a ai) x hx).2
    have h2 := h.ks b bi y hy
    have h3 := h.lo a ai
    have h4 := h.lo b bi
    rcases h.dis a b ai bi (by omega) (fun e => by subst e; omega) with h5 | h5 <;> omega
  · rw [hz.2, List.mem_flatMap]
    constructor
    · rintro ⟨a, ha, hm⟩
      obtain ⟨ai, al⟩ := R.inn a ha
      have hk := (ent_key hm).1
      rw [← L a ai al q (h.ks a ai q hk) (right_kb _ (h.rt a ai) q hk).2]
      exact (lmap_mem (h.rt a ai) q u).1 hm
    · intro hm
      obtain ⟨e, e1, e2⟩ := mapO_key hm
      have hk := ho e e1
      obtain ⟨m, -, hmm⟩ := rank_ex t h
      have hp0 : p ∈ ps := List.mem_of_getElem? R.hd
      obtain ⟨pi, pl⟩ := R.inn p hp0
      obtain ⟨p0, q1, q2, q3⟩ : ∃ p0, t.inn p0 ∧ (t.nd p0).lv = 0 ∧ t.low p0 ≤ q := by
        rcases Int.decLe (t.low p) q with hlt | hle
        · exact ⟨p, pi, pl, by
            exfalso
            obtain ⟨z, z1, z2, z3⟩ : ∃ z, t.inn z ∧ (t.nd z).lv = 0 ∧ t.low z = 0 := by
              have key : ∀ (n : Nat) (y : Nat), (t.low y).toNat ≤ n → t.inn y → (t.nd y).lv = 0 → ∃ z, t.inn z ∧ (t.nd z).lv = 0 ∧ t.low z = 0 := by
                intro n
                induction n with
                | zero => intro y hy yi yl; exact ⟨y, yi, yl, by have := h.lo y yi; omega⟩
                | succ n ih =>
                  intro y hy yi yl
                  by_cases hy0 : t.low y = 0
                  · exact ⟨y, yi, yl, hy0⟩
                  · obtain ⟨w, w1, w2, w3⟩ := h.prd y yi (by have := h.lo y yi; omega)
                    exact ih w (by have := h.lo w w1; omega) w1 (by omega)
              exact key _ p (Nat.le_refl _) pi pl
            have hzp := R.ge z (hall z z1 z2)
            omega⟩
        · exact ⟨p, pi, pl, hle⟩
      obtain ⟨a, a1, a2, a3, a4⟩ := cover_ex h (key := q) (by omega) _ p0 m hmm (Nat.le_refl _) q1 q3
      refine ⟨a, hall a a1 (by omega), ?_⟩
      rw [lmap_mem (h.rt a a1), L a a1 (by omega) q a3 a4]
      exact hm
theorem RowF.first {t : Tre} (h : t.Ok) {l : Int} {p : Nat} {ps : List Nat} (R : RowF t l p ps) (h0 : t.low p = 0) (hl : 0 < l) {i q : Nat} (hi : ps[i]? = some q) : ∃ a r, (t.nd q).ks = a :: r ∧ ((i = 0 ∧ a = 0) ∨ ∃ b, 0 < i ∧ ps[i - 1]? = some b ∧ a = (t.nd b).hi) := by
  obtain ⟨qi, ql⟩ := R.inn q (List.mem_of_getElem? hi)
  have hf := h.fst q qi (by omega)
  cases hks : (t.nd q).ks with
  | nil => rw [hks] at hf; cases hf
  | cons a r =>
    rw [hks] at hf
    have ea : a = t.low q := Option.some.inj hf
    refine ⟨a, r, rfl, ?_⟩
    cases i with
    | zero =>
      rw [R.hd] at hi
      have e := Option.some.inj hi
      subst e
      exact Or.inl ⟨rfl, by omega⟩
    | succ i =>
      have hlt : i < ps.length := by have := (List.getElem?_eq_some_iff.1 hi).1; omega
      refine Or.inr ⟨ps[i], by omega, List.getElem?_eq_getElem hlt, ?_⟩
      rw [ea]
      exact R.nx i _ q (List.getElem?_eq_getElem hlt) hi
theorem RowF.child {t : Tre} (h : t.Ok) {l : Int} {p : Nat} {ps : List Nat} (R : RowF t l p ps) (hl : 0 < l) {b : Nat} {qs : List Nat} (Q : RowF t (l - 1) b qs) (hall : ∀ q, t.inn q → (t.nd q).lv = l - 1 → q ∈ qs) {q : Nat} (hq : q ∈ ps) {key v : Int} (he : (key, v) ∈ ent (t.nd q)) : ∃ c j : Nat, v = (c : Int) ∧ qs[j]? = some c ∧ (∀ j', j' < j → qs[j']? ≠ some c) ∧ (j = 0 ∨ ∃ a, qs[j - 1]? = some a ∧ (t.nd a).hi ≤ key) := by
  obtain ⟨qi, ql⟩ := R.inn q hq
  obtain ⟨c, c1, c2, c3, c4⟩ := h.chd q qi (by omega) (key, v) he
  obtain ⟨j, hj⟩ := List.mem_iff_getElem?.1 (hall c c2 (by omega))
  refine ⟨c, j, c1, hj, fun j' hj' e => ?_, ?_⟩
  · obtain ⟨u1, u2⟩ := List.getElem?_eq_some_iff.1 hj
    obtain ⟨v1, v2⟩ := List.getElem?_eq_some_iff.1 e
    have := List.pairwise_iff_getElem.1 Q.pw j' j v1 u1 hj'
    rw [u2, v2] at this
    omega
  · cases j with
    | zero => exact Or.inl rfl
    | succ j =>
      have hlt : j < qs.length := by have := (List.getElem?_eq_some_iff.1 hj).1; omega
      refine Or.inr ⟨qs[j], List.getElem?_eq_getElem hlt, ?_⟩
      have := Q.nx j _ c (List.getElem?_eq_getElem hlt) hj
      have e : t.low c = key := c3
      omega
theorem row_rise {t : Tre} (h : t.Ok) {p : Nat} {ps : List Nat} (R : RowF t 0 p ps) : (rowK t ps).Pairwise (· < ·) ∧ ∀ k ∈ rowK t ps, 1 ≤ k := by
  constructor
  · unfold rowK
    refine List.pairwise_flatMap.2 ⟨fun q hq => right_pw _ (h.rt q (R.inn q hq).1), ?_⟩
    refine List.Pairwise.imp_of_mem (fun {a b} ha hb hab x hx y hy => ?_) R.pw
    obtain ⟨ai, al⟩ := R.inn a ha
    obtain ⟨bi, bl⟩ := R.inn b hb
    have h1 := (right_kb _ (h.rt a ai) x hx).2
    have h2 := h.ks b bi y hy
    have h3 := h.lo a ai
    have h4 := h.lo b bi
    rcases h.dis a b ai bi (by omega) (fun e => by subst e; omega) with h5 | h5 <;> omega
  · intro k hk
    unfold rowK at hk
    obtain ⟨q, hq, hk⟩ := List.mem_flatMap.1 hk
    obtain ⟨qi, ql⟩ := R.inn q hq
    have h1 := (right_least _ (h.rt q qi) k hk).1
    unfold least at h1
    rw [if_pos ql] at h1
    exact h1
theorem take_snocL {α : Type} {l : List α} {j : Nat} {a : α} (h : l[j]? = some a) : l.take (j + 1) = l.take j ++ [a] := by
  rw [List.take_add_one, h]; rfl
theorem rowK_take {t : Tre} {ps : List Nat} {j q : Nat} (h : ps[j]? = some q) : rowK t (ps.take (j + 1)) = rowK t (ps.take j) ++ (t.nd q).ks ∧ rowV t (ps.take (j + 1)) = rowV t (ps.take j) ++ (t.nd q).vs := by
  rw [take_snocL h]
  unfold rowK rowV
  rw [List.flatMap_append, List.flatMap_append]
  simp
theorem rowK_sub {t : Tre} {ps : List Nat} (j : Nat) : ∃ r, rowK t ps = rowK t (ps.take j) ++ r := by
  refine ⟨rowK t (ps.drop j), ?_⟩
  unfold rowK
  rw [← List.flatMap_append, List.take_append_drop]
def lastK (l : List Int) : Int := l.getLast?.getD 0
theorem last_lt {A B : List Int} {k : Int} (h : (A ++ k :: B).Pairwise (· < ·)) (h1 : ∀ x ∈ A ++ k :: B, 1 ≤ x) : lastK A < k := by
  unfold lastK
  cases hl : A.getLast? with
  | none => have := h1 k (by simp); show (0 : Int) < k; omega
  | some a =>
    have ha : a ∈ A := List.mem_of_getLast? hl
    exact (List.pairwise_append.1 h).2.2 a ha k (by simp)
theorem row_last {t : Tre} (h : t.Ok) {p : Nat} {ps : List Nat} (R : RowF t 0 p ps) {j q : Nat} (hj : ps[j]? = some q) {i : Nat} {k : Int} (hi : (t.nd q).ks[i]? = some k) : lastK (rowK t (ps.take j) ++ (t.nd q).ks.take i) < k := by
  obtain ⟨r1, r2⟩ := row_rise h R
  obtain ⟨r, hr⟩ := rowK_sub (t := t) (ps := ps) (j + 1)
  rw [(rowK_take hj).1] at hr
  have hs : (t.nd q).ks = (t.nd q).ks.take i ++ k :: (t.nd q).ks.drop (i + 1) := by
    have hil := (List.getElem?_eq_some_iff.1 hi).1
    have e : (t.nd q).ks[i] = k := (List.getElem?_eq_some_iff.1 hi).2
    rw [← e, ← List.drop_eq_getElem_cons hil, List.take_append_drop]
  have e : rowK t ps = (rowK t (ps.take j) ++ (t.nd q).ks.take i) ++ k :: ((t.nd q).ks.drop (i + 1) ++ r) := by
    rw [hr]
    conv => lhs; rw [hs]
    simp
  rw [e] at r1 r2
  exact last_lt r1 r2
theorem lastK_snoc (A : List Int) (ks : List Int) {i : Nat} {k : Int} (hi : ks[i]? = some k) : lastK (A ++ ks.take (i + 1)) = k := by
  rw [take_snocL hi, ← List.append_assoc]
  unfold lastK
  rw [List.getLast?_concat]; rfl
theorem rowK_len {t : Tre} (h : t.Ok) {ps : List Nat} (hi : ∀ q ∈ ps, t.inn q) : (rowK t ps).length ≤ 6 * ps.length ∧ (rowV t ps).length = (rowK t ps).length := by
  induction ps with
  | nil => exact ⟨Nat.le_refl _, rfl⟩
  | cons a r ih =>
    have h1 := ih fun q hq => hi q (by simp [hq])
    have hb := right_bd _ (h.rt a (hi a (by simp)))
    have h2 : (t.nd a).ks.length ≤ 6 := hb.2.2.2.2.1
    have h3 := hb.2.2.2.1
    unfold rowK rowV at h1 ⊢
    rw [List.flatMap_cons, List.flatMap_cons, List.length_append, List.length_append, List.length_cons]
    omega
theorem RowF.near {t : Tre} {l : Int} {p : Nat} {ps : List Nat} (R : RowF t l p ps) {j a b : Nat} (ha : ps[j]? = some a) (hb : ps[j + 1]? = some b) : t.inn b ∧ Nearer t b a := by
  have h1 := R.inn a (List.mem_of_getElem? ha)
  have h2 := R.inn b (List.mem_of_getElem? hb)
  refine ⟨h2.1, Or.inr ⟨by omega, ?_⟩⟩
  have hal := (List.getElem?_eq_some_iff.1 ha)
  have hbl := (List.getElem?_eq_some_iff.1 hb)
  have := List.pairwise_iff_getElem.1 R.pw j (j + 1) hal.1 hbl.1 (by omega)
  rw [hal.2, hbl.2] at this
  exact this
theorem run_append_zero {P : Program} {w : World} (base : Nat) (t ty e : TypeId) (i : TypeInfo) (size : Nat) (ht : P.underlying t = some (.slice e)) (hi : P.info? e = some i) (v : Value) (n : Nat) (xs : List Value) (hown : w.ownsRow base e size v n xs) (sa : Option Addr) (sc : Nat) :
    (Builtin.append_ #[t, t] ty #[v, .slice sa 0 sc]).run P w = .ok v w := by
  rcases hown.2 with ⟨rfl, rfl⟩ | ⟨g, cap, cur, rfl, _, _, hnc, _⟩
  · cases sa <;> simp [Builtin.append_, run_underlying ht, sizeOf, typeInfo, hi, Builtin.lenOf, Builtin.firstCells, loadCells, loadCellsFrom]
  · cases sa <;> simp [Builtin.append_, run_underlying ht, sizeOf, typeInfo, hi, Builtin.lenOf, Builtin.firstCells, loadCells, loadCellsFrom, hnc, storeCells]
theorem step_append_zero {P : Program} {w : World} {ops : Array Oper} {o : Oper} {a : Act} {K : Act → World → Prop} {Q : Exit → Act → World → Prop} {E : Prop} (hgd : o.guard = none) (s x : Operand) (t : TypeId)
    (ho : o.op = .call { callee := .builtin .append, args := #[s, x], argTypes := #[t, t] })
    (base : Nat) (e : TypeId) (i : TypeInfo) (size : Nat) (ht : P.underlying t = some (.slice e)) (hi : P.info? e = some i)
    (v : Value) (n : Nat) (xs : List Value) (hs : a.eval s = v) (hown : w.ownsRow base e size v n xs) (sa : Option Addr) (m sc : Nat) (hx : a.eval x = .slice sa m sc) (hm : m = 0)
    (h : K (a.put o.dst v) w) : if Region.wanted o (yielded ops a.tmps) = true then Oper.wp P o a w K Q else E := by
  have hw : Region.wanted o (yielded ops a.tmps) = true := by simp [Region.wanted, hgd]
  rw [if_pos hw]
  subst hm
  have hr := run_append_zero (P := P) base t o.type e i size ht hi v n xs hown sa sc
  unfold Oper.wp execOp
  simp only [ho, resolve, invoke, builtin, Sem.run_bind, Sem.run_pure, Result.andThen_ok, List.map_toArray, List.map_cons, List.map_nil, hs, hx, hr]
  exact h
def RowSt (t : Tre) (ps : List Nat) (b : Bool) (la q : Int) (K V : List Int) : Prop :=
  (∃ p : Nat, q = (p : Int) ∧ t.inn p ∧ t.low p = 0 ∧ 0 < (t.nd p).lv ∧ b = false ∧ la = 0 ∧ K = [] ∧ V = []) ∨
  (∃ j : Nat, j ≤ ps.length ∧ q = (ps[j]?.map Int.ofNat).getD (-1) ∧ la = lastK (rowK t (ps.take j)) ∧ K = rowK t (ps.take j) ∧ V = rowV t (ps.take j))
def mq (m : Nat → Nat) (q : Int) : Nat := if q < 0 then 0 else m q.toNat + 1
theorem mq_nat (m : Nat → Nat) (p : Nat) : mq m (p : Int) = m p + 1 := by unfold mq; rw [if_neg (by omega), Int.toNat_natCast]
set_option maxRecDepth 100000 in
set_option maxHeartbeats 6400000 in
theorem row_yes (gw tg tc ug uc p0 : Nat) (T : List ByteArray) (U : List Bool) (t : Tre) (ps : List Nat) (w : World) (h : PgR gw tg tc ug uc T U w) (ht : t.Ok) (hsay : ∀ p, t.inn p → Says T U p (t.nd p)) (R : RowF t 0 p0 ps) (hl0 : t.low p0 = 0) (hl : ps.length ≤ 64) :
    Calls Tryd.prog 31 #[.pointer (some ⟨gw, 0, none⟩)] w fun e w' => ∃ gt kv vv, e = .returned (.tuple #[.pointer (some ⟨gt, 0, none⟩), .bool true]) ∧ M w w.heap.size w' [.blk gt #[kv, vv] 67, .row 3 1 kv (rowK t ps).length (ints (rowK t ps)), .row 3 1 vv (rowK t ps).length (ints (rowV t ps))] := by
  obtain ⟨i0, hi0, hz0, hz1, hz2⟩ := info_parts infoInt
  obtain ⟨m, -, hm⟩ := rank_ex t ht
  have HM := hideIt hm
  have HP := hideIt h
  have HS := hideIt hsay
  have HT := hideIt ht
  have HR := hideIt R
  have HL := hideIt hl
  have HL0 := hideIt hl0
  have hmk : ∀ W, (Instr.makeSlice 53 (.int .i64 64) (.int .i64 64)).run Tryd.prog W = .ok (.slice (some ⟨W.heap.size, 0, none⟩) 64 64) (W.alloc (.cells (bools (List.replicate 64 false)).toArray 4)) := fun _ => by kernel_rfl
  have A0 := hideIt ((((M.blkRow ((M.nil2 (e := 3) (z := 1) (l1 := [_]) (M.nil2 (e := 3) (z := 1) (l1 := [_]) ((M.start w).alloc #[.slice none 0 0, .slice none 0 0] 67))).alloc (bools (List.replicate 64 false)).toArray 4) (by decide))).perm (l' := [.blk w.heap.size #[.slice none 0 0, .slice none 0 0] 67, .row 3 1 (.slice none 0 0) 0 [], .row 3 1 (.slice none 0 0) 0 [], .row 4 1 (.slice (some ⟨(w.alloc (.cells #[.slice none 0 0, .slice none 0 0] 67)).heap.size, 0, none⟩) 64 64) 64 (bools (List.replicate 64 false))]) (List.perm_append_comm (l₁ := [_, _, _]) (l₂ := [_]))))
  have H0 : Hid (∃ q K V, q = (0 : Int) ∧ K = ([] : List Int) ∧ V = ([] : List Int) ∧ RowSt t ps false 0 q K V) := by
    refine ⟨0, [], [], rfl, rfl, rfl, ?_⟩
    have h0 := ht.l0
    by_cases hlv : 0 < (t.nd 0).lv
    · exact Or.inl ⟨0, rfl, ht.r0, h0, hlv, rfl, rfl, rfl, rfl⟩
    · refine Or.inr ⟨0, by omega, ?_, rfl, rfl, rfl⟩
      have hp0 := R.inn p0 (List.mem_of_getElem? R.hd)
      have : p0 = 0 := by
        rcases Nat.eq_zero_or_pos p0 with e | e
        · exact e
        · have := ht.top p0 hp0.1 (by omega)
          omega
      rw [R.hd, this]; rfl
  clear h hsay ht R hl0 hl hm
  go_enter Tryd.func31, Tryd.ntmps31
  go_wp2
  have HW : Hid ((w.alloc (.cells #[.slice none 0 0, .slice none 0 0] 67)).heap.size = w.heap.size + 1) := by unfold Hid; simp
  rw [HW.out] at A0
  obtain ⟨gb, hgb⟩ : ∃ g, w.heap.size + 1 = g := ⟨_, rfl⟩
  rw [hgb] at A0 ⊢
  clear hgb HW hmk
  obtain ⟨gt, hgt⟩ : ∃ g, w.heap.size = g := ⟨_, rfl⟩
  have HGT := hideIt hgt
  rw [hgt] at A0 ⊢
  clear hgt
  go_loopw [6, 7, 8] (fun lf lt at_ wr => ∃ (b : Bool) (q la : Int) (K V : List Int) (kv vv : Value) (bn : List Bool), lf = .bool b ∧ lt = .int .i64 la ∧ at_ = .int .i64 q ∧ Hid (RowSt t ps b la q K V) ∧ Hid (V.length = K.length ∧ K.length ≤ 384) ∧ Hid (bn.length = 64 ∧ ∀ p, bn[p]? = some true → mq m q ≤ m p) ∧ Hid (M w gt wr [.blk gt #[kv, vv] 67, .row 3 1 kv K.length (ints K), .row 3 1 vv K.length (ints V), .row 4 1 (.slice (some ⟨gb, 0, none⟩) 64 64) 64 (bools bn)])) (fun _ _ at_ _ => mq m (intOf at_))
  case atStart =>
    obtain ⟨q, K, V, rfl, rfl, rfl, hst⟩ := H0.out
    refine ⟨false, 0, 0, [], [], _, _, List.replicate 64 false, rfl, rfl, rfl, hst, ⟨rfl, by decide⟩, ⟨List.length_replicate, fun p hp => ?_⟩, A0.out⟩
    rw [List.getElem?_replicate] at hp
    split at hp
    · cases hp
    · cases hp
  case round =>
    clear A0 H0
    obtain ⟨b, q, la, K, V, kv, vv, bn, rfl, rfl, rfl, hst, hkl, hbn, hM⟩ := hrel
    have hbl : Hid (Below w.heap.size w wr) := by have := hM.out.bl; rw [← HGT.out] at this; exact this
    by_cases hq : q = -1
    · subst hq
      have HF : Hid (K = rowK t ps ∧ V = rowV t ps) := by
        rcases hst.out with ⟨p, e, -⟩ | ⟨j, hj, e, -, h1, h2⟩
        · omega
        · have hjl : ps.length ≤ j := by
            rcases Nat.lt_or_ge j ps.length with h | h
            · rw [List.getElem?_eq_getElem h] at e
              have e2 : (-1 : Int) = ((ps[j] : Nat) : Int) := e
              omega
            · exact h
          rw [List.take_of_length_le hjl] at h1 h2
          exact ⟨h1, h2⟩
      have HM2 : Hid (M w w.heap.size wr [.blk gt #[kv, vv] 67, .row 3 1 kv (rowK t ps).length (ints (rowK t ps)), .row 3 1 vv (rowK t ps).length (ints (rowV t ps))]) := by
        unfold Hid
        have := hM.out.sub (l' := [.blk gt #[kv, vv] 67, .row 3 1 kv K.length (ints K), .row 3 1 vv K.length (ints V)]) (List.sublist_append_left [_, _, _] [_])
        rw [HGT.out, ← HF.out.1, ← HF.out.2]
        exact this
      clear hM hst hkl hbn hbl HF
      go_wp2
      refine bodyPost_ret (v := .tuple #[.pointer (some ⟨gt, 0, none⟩), .bool true]) (by simp [results, Tryd.results31, go_sem, *]) rfl ⟨gt, kv, vv, rfl, HM2.out⟩
    · have hqb : (q != -1) = true := by simp [hq]
      obtain ⟨p, hqp, hpi, hcs⟩ : ∃ p : Nat, q = (p : Int) ∧ t.inn p ∧ ((0 < (t.nd p).lv ∧ t.low p = 0 ∧ b = false ∧ la = 0 ∧ K = [] ∧ V = []) ∨ ((t.nd p).lv = 0 ∧ ∃ j, ps[j]? = some p ∧ la = lastK (rowK t (ps.take j)) ∧ K = rowK t (ps.take j) ∧ V = rowV t (ps.take j))) := by
        rcases hst.out with ⟨p, e, h1, h2, h3, h4, h5, h6, h7⟩ | ⟨j, hj, e, h1, h2, h3⟩
        · exact ⟨p, e, h1, Or.inl ⟨h3, h2, h4, h5, h6, h7⟩⟩
        · rcases Nat.lt_or_ge j ps.length with h | h
          · have hp := List.getElem?_eq_getElem h
            rw [hp] at e
            have hin := HR.out.inn _ (List.getElem_mem h)
            exact ⟨ps[j], e, hin.1, Or.inr ⟨hin.2, j, hp, h1, h2, h3⟩⟩
          · rw [List.getElem?_eq_none h] at e
            exact absurd e hq
      subst hqp
      have hs := HS.out p hpi
      have hp64 : p < 64 := hs.1
      have hp0 : (0 : Int) ≤ (p : Int) := by omega
      have hp1 : (p : Int) < 64 := by omega
      have hbp : bn[p]? = some false := by
        obtain ⟨b', hb'⟩ : ∃ b', bn[p]? = some b' := ⟨_, List.getElem?_eq_getElem (by rw [hbn.out.1]; exact hp64)⟩
        cases b' with
        | false => exact hb'
        | true =>
          have := hbn.out.2 p hb'
          rw [mq_nat] at this
          omega
      have HBP := hideIt hbp
      have HPI := hideIt hpi
      have HLV := hideIt (right_bd _ (HT.out.rt p hpi)).1
      have CS := hideIt (says_yes gw tg tc ug uc p T U (t.nd p) wr (HP.out.below hbl.out) hs)
      obtain ⟨n, hn⟩ : ∃ n, t.nd p = n := ⟨_, rfl⟩
      have HN := hideIt hn
      rw [hn] at CS HLV
      have HCS := hideIt hcs
      clear hst hs hpi hbp hq hn hcs
      go_wp2_with fail
      refine CS.out.mono ?_
      rintro e w1 ⟨kv1, vv1, rfl, hM1⟩
      obtain ⟨ka, kc, rfl⟩ := As.form0 (hM1.get (i := 0) rfl)
      obtain ⟨va, vc, rfl⟩ := As.form0 (hM1.get (i := 1) rfl)
      have hM3 := (hM.out.join hM1).alloc #[.int .i64 n.lv, .int .i64 n.lk, .int .i64 n.hi, .slice ka n.ks.length kc, .slice va n.vs.length vc] 24
      obtain ⟨gn, hgn⟩ : ∃ g, w1.heap.size = g := ⟨_, rfl⟩
      obtain ⟨w2, hw2⟩ : ∃ W, w1.alloc (.cells #[.int .i64 n.lv, .int .i64 n.lk, .int .i64 n.hi, .slice ka n.ks.length kc, .slice va n.vs.length vc] 24) = W := ⟨_, rfl⟩
      rw [hw2, hgn] at hM3
      have HW2 := hideIt hw2
      have HGN := hideIt hgn
      have HM3 := hideIt hM3
      clear CS hM1 hM hM3 hw2 hgn hbl
      go_upto_region 8 with fail
      rw [HW2.out, HGN.out]
      clear HW2 HGN
      have n0 := HM3.out.cell (i := 0) rfl 0 (.int .i64 n.lv) rfl
      have n4 := HM3.out.cell (i := 0) rfl 4 (.slice va n.vs.length vc) rfl
      have b0 := HM3.out.rowCell (i := 6) rfl p (.bool false) (bools_get HBP.out)
      have fz := World.ownsRow.frozenAt (HM3.out.get (i := 6) rfl).own p
      have hgbl : gb < w2.heap.size := lt_of_cell b0
      have hgnl : gn < w2.heap.size := lt_of_cell n0
      have S1 := HM3.out.storeRow (i := 6) (j := p) rfl (.bool true)
      obtain ⟨w3, hw3⟩ : ∃ W, w2.setCell ⟨gb, p, none⟩ (.bool true) = W := ⟨_, rfl⟩
      rw [hw3, bools_setx] at S1
      have HW3 := hideIt hw3
      have HS1 : Hid (M w gt w3 [.blk gn #[.int .i64 n.lv, .int .i64 n.lk, .int .i64 n.hi, .slice ka n.ks.length kc, .slice va n.vs.length vc] 24, .row 3 1 (.slice ka n.ks.length kc) n.ks.length (ints n.ks), .row 3 1 (.slice va n.vs.length vc) n.vs.length (ints n.vs), .blk gt #[kv, vv] 67, .row 3 1 kv K.length (ints K), .row 3 1 vv K.length (ints V), .row 4 1 (.slice (some ⟨gb, 0, none⟩) 64 64) 64 (bools (bn.set p true))]) := S1
      have HB2 : Hid ((bn.set p true).length = 64 ∧ ∀ r : Nat, r ≤ m p → ∀ q, (bn.set p true)[q]? = some true → r ≤ m q) := by
        refine ⟨by rw [List.length_set]; exact hbn.out.1, fun r hr q hq => ?_⟩
        rw [List.getElem?_set] at hq
        split at hq
        · rename_i e; subst e; exact hr
        · have := hbn.out.2 q hq
          rw [mq_nat] at this
          omega
      clear hw3 S1 HM3
      rcases HCS.out with ⟨hlv, hlow, rfl, rfl, rfl, rfl⟩ | ⟨hlv, j, hj, hla, hK, hV⟩
      · obtain ⟨c, hc1, hc2, hc3, hc4⟩ := first_child HT.out HPI.out hlow hlv
        rw [HN.out] at hlv hc1 hc4
        have HC : Hid (t.inn c ∧ t.low c = 0 ∧ (t.nd c).lv + 1 = n.lv) := ⟨hc2, hc3, hc4⟩
        have hnear := hideIt (HM.out p c hc2 (Or.inl (by rw [HN.out]; omega)))
        have hvl : 0 < n.vs.length := by have := (List.getElem?_eq_some_iff.1 hc1).1; exact this
        have hvl0 : (0 : Int) < (n.vs.length : Int) := by omega
        have hvb : ((n.vs.length : Int) == 0) = false := by rw [beq_eq_false_iff_ne]; omega
        have hvb2 : (n.vs.length == 0) = false := by rw [beq_eq_false_iff_ne]; omega
        have hlb : (n.lv != 0) = true := by simp; omega
        obtain ⟨vg, vcap, hva⟩ := As.form (HS1.out.get (i := 2) rfl) hvl
        cases hva
        have HC1 := hideIt hc1
        clear hc1 hc2 hc3 hc4 hlow
        go_upto_region 11 with fail
        rw [HW3.out]
        clear n0 n4 b0 fz hgbl hgnl HW3
        have n0 := HS1.out.cell (i := 0) rfl 0 (.int .i64 n.lv) rfl
        have n4 := HS1.out.cell (i := 0) rfl 4 (.slice (some ⟨vg, 0, none⟩) n.vs.length vc) rfl
        have y0 := HS1.out.rowCell (i := 2) rfl 0 (.int .i64 c) (ints_get HC1.out)
        have hgnl : gn < w3.heap.size := lt_of_cell n0
        have hvgl : vg < w3.heap.size := lt_of_cell y0
        have HM4 := hideIt (HS1.out.sub (l' := [.blk gt #[kv, vv] 67, .row 3 1 kv ([] : List Int).length (ints []), .row 3 1 vv ([] : List Int).length (ints []), .row 4 1 (.slice (some ⟨gb, 0, none⟩) 64 64) 64 (bools (bn.set p true))]) (List.sublist_append_right [_, _, _] [_, _, _, _]))
        have HST : Hid (RowSt t ps false 0 (c : Int) [] []) := by
          have h9 := HC.out
          by_cases hcl : 0 < (t.nd c).lv
          · exact Or.inl ⟨c, rfl, h9.1, h9.2.1, hcl, rfl, rfl, rfl, rfl⟩
          · refine Or.inr ⟨0, by omega, ?_, rfl, rfl, rfl⟩
            have hc0 : (t.nd c).lv = 0 := by have := (right_bd _ (HT.out.rt c h9.1)).1; omega
            have hmem := HR.out.all c h9.1 hc0 (by rw [HL0.out]; have := (HT.out.lo c h9.1).1; omega)
            have hp00 := HR.out.inn p0 (List.mem_of_getElem? HR.out.hd)
            have : c = p0 := by
              by_cases e : c = p0
              · exact e
              · have hz1 := HT.out.lo c h9.1
                have hz2 := HT.out.lo p0 hp00.1
                rcases HT.out.dis c p0 h9.1 hp00.1 (by omega) e with h5 | h5
                · have := HL0.out; have := h9.2.1; omega
                · have := HL0.out; have := h9.2.1; omega
            rw [HR.out.hd, this]; rfl
        clear HS1 HC
        go_wp2
        go_roundw
        case rel => exact ⟨false, c, 0, [], [], kv, vv, bn.set p true, rfl, rfl, rfl, HST.out, ⟨rfl, by decide⟩, ⟨HB2.out.1, fun q hq => HB2.out.2 _ (by rw [mq_nat]; exact hnear.out) q hq⟩, HM4.out⟩
        case measure =>
          show mq m (c : Int) < mq m (p : Int)
          rw [mq_nat, mq_nat]; have := hnear.out; omega
      · have HVL : Hid (n.ks.length = n.vs.length) := by have := (right_bd _ (HT.out.rt p HPI.out)).2.2.2.1; rw [HN.out] at this; exact this
        have HKL : Hid (n.ks.length ≤ 6) := by have := (right_bd _ (HT.out.rt p HPI.out)).2.2.2.2.1; rw [HN.out] at this; exact this
        have HLST : Hid (∀ i k, n.ks[i]? = some k → lastK (K ++ n.ks.take i) < k) := fun i k hk => by
          have := row_last HT.out HR.out hj (i := i) (k := k) (by rw [HN.out]; exact hk)
          rw [HN.out, ← hK] at this
          exact this
        have HNX : Hid (∃ j', j' ≤ ps.length ∧ n.lk = (ps[j']?.map Int.ofNat).getD (-1) ∧ K ++ n.ks = rowK t (ps.take j') ∧ V ++ n.vs = rowV t (ps.take j')) := by
          have hjl := (List.getElem?_eq_some_iff.1 hj).1
          have h1 := rowK_take (t := t) hj
          rw [HN.out] at h1
          have h2 := HR.out.lk j p hj
          rw [HN.out] at h2
          exact ⟨j + 1, by omega, h2, by rw [h1.1, hK], by rw [h1.2, hV]⟩
        have HKV : Hid (K.length ≤ 378) := by
          have hjl := (List.getElem?_eq_some_iff.1 hj).1
          have h1 := (rowK_len HT.out (ps := ps.take j) fun q hq => (HR.out.inn q (List.mem_of_mem_take hq)).1).1
          rw [← hK, List.length_take] at h1
          have := HL.out
          unfold Hid
          omega
        have HNEAR : Hid (mq m n.lk ≤ m p) := by
          have h2 := HR.out.lk j p hj
          rw [HN.out] at h2
          unfold Hid
          rw [h2]
          cases hx : ps[j + 1]? with
          | none => exact Nat.zero_le _
          | some r =>
            have h3 := HR.out.near hj hx
            have := HM.out p r h3.1 h3.2
            show mq m ((r : Nat) : Int) ≤ m p
            rw [mq_nat]
            omega
        have HLA : Hid (la = lastK K) := by unfold Hid; rw [hla, hK]
        rw [HN.out] at hlv
        obtain ⟨ta, tcap, rfl⟩ := As.form0 (HS1.out.get (i := 4) rfl)
        obtain ⟨ua, ucap, rfl⟩ := As.form0 (HS1.out.get (i := 5) rfl)
        rw [hlv] at n0 HS1
        have HLV0 := hideIt hlv
        clear hla hK hV hj hlv
        go_upto_region 8 with fail
        go_cut [49] from 15 to 102 (fun c wy => c = .bool false ∧ wy = w2)
        case first =>
          cases b
          all_goals
            go_wp2
            go_meet
            case rel => exact ⟨rfl, rfl⟩
        case rest =>
          obtain ⟨rfl, rfl⟩ := hcut
          go_upto_region 11 with fail
          rw [HW3.out]
          clear n0 n4 b0 fz hgbl hgnl HW3
          have n0 := HS1.out.cell (i := 0) rfl 0 (.int .i64 0) rfl
          have n3 := HS1.out.cell (i := 0) rfl 3 (.slice ka n.ks.length kc) rfl
          have hgnl : gn < w3.heap.size := lt_of_cell n0
          have hkl6 := HKL.out
          go_wp2
          go_loopw [7, 11] (fun lt vi wr => ∃ i : Nat, vi = .int .i64 i ∧ i ≤ n.ks.length ∧ lt = .int .i64 (lastK (K ++ n.ks.take i)) ∧ wr = w3) (fun _ vi _ => n.ks.length - (intOf vi).toNat)
          case atStart => exact ⟨0, rfl, by omega, by rw [List.take_zero, List.append_nil, HLA.out], rfl⟩
          case round =>
            obtain ⟨i, rfl, hi, rfl, rfl⟩ := hrel
            have hin0 : (0 : Int) ≤ (i : Int) := by omega
            by_cases hlt : i < n.ks.length
            · have hi1 : (i : Int) < (n.ks.length : Int) := by omega
              obtain ⟨k, hk⟩ : ∃ k, n.ks[i]? = some k := ⟨_, List.getElem?_eq_getElem hlt⟩
              obtain ⟨kg, kcap, hka⟩ := As.form (HS1.out.get (i := 1) rfl) (by omega)
              cases hka
              have y1 := HS1.out.rowCell (i := 1) rfl i (.int .i64 k) (ints_get hk)
              have hkgl : kg < wr.heap.size := lt_of_cell y1
              have hkl := HLST.out i k hk
              have HSN := hideIt (lastK_snoc K n.ks hk)
              obtain ⟨la2, hla2⟩ : ∃ y, lastK (K ++ n.ks.take i) = y := ⟨_, rfl⟩
              rw [hla2] at hkl ⊢
              have hnle : ¬ (k ≤ la2) := by omega
              clear hk hla2 hkl
              go_wp2
              go_roundw
              case rel => exact ⟨i + 1, by go_num, by omega, by rw [HSN.out], by trivial⟩
              case measure => simp [intOf]; omega
            · obtain rfl : i = n.ks.length := by omega
              rw [List.take_length]
              go_upto_region 20 with fail
              have q0 := HS1.out.cell (i := 3) rfl 0 (.slice ta K.length tcap) rfl
              have f0 := HS1.out.free (i := 3) rfl 0
              go_cut [] from 15 to 102 (fun wy => ∃ kv', Hid (M w gt wy [.blk gn #[.int .i64 0, .int .i64 n.lk, .int .i64 n.hi, .slice ka n.ks.length kc, .slice va n.vs.length vc] 24, .row 3 1 (.slice ka n.ks.length kc) n.ks.length (ints n.ks), .row 3 1 (.slice va n.vs.length vc) n.vs.length (ints n.vs), .blk gt #[kv', .slice ua K.length ucap] 67, .row 3 1 kv' (K ++ n.ks).length (ints (K ++ n.ks)), .row 3 1 (.slice ua K.length ucap) K.length (ints V), .row 4 1 (.slice (some ⟨gb, 0, none⟩) 64 64) 64 (bools (bn.set p true))]))
              case first =>
                by_cases hks : n.ks.length = 0
                · have HZE : Hid (K ++ n.ks = K) := by unfold Hid; rw [List.eq_nil_of_length_eq_zero hks, List.append_nil]
                  have HS2 := hideIt ((HS1.out.store (i := 3) (j := 0) rfl (.slice ta K.length tcap) rfl).drew)
                  have HKS := hideIt hks
                  clear hks
                  go_region_law (refine step_append_zero rfl _ _ 22 rfl gt 3 i0 1 Tryd.underlying22 hi0 _ K.length (ints K) rfl (HS1.out.get (i := 4) rfl).own _ _ _ rfl HKS.out ?_)
                  all_goals
                    go_wp2
                    go_meet
                    case rel =>
                      refine ⟨.slice ta K.length tcap, ?_⟩
                      rw [HZE.out]
                      exact HS2.out
                · obtain ⟨kg, kcap, hka⟩ := As.form (HS1.out.get (i := 1) rfl) (by omega)
                  cases hka
                  have h378 := HKV.out
                  have hkr : As.holds wr gt (.row 3 1 (.slice (some ⟨kg, 0, none⟩) n.ks.length kc) n.ks.length (ints n.ks)) := HS1.out.get (i := 1) rfl
                  go_region_law (refine step_append_lies _ rfl _ _ 22 rfl gt 3 i0 (.int .i64 0) 1 8 Tryd.underlying22 hi0 hz0 hz1 hz2 rfl (by decide) _ K.length (ints K) rfl (HS1.out.get (i := 4) rfl) ⟨_, 0, none⟩ n.ks.length _ (ints n.ks) rfl (by rw [len_ints, Nat.mul_one]) (World.ownsRow.cells hkr rfl) (by simp [ints, Value.oneCell']) (by omega) (by unfold maxLen; omega) (by omega) HS1.out.sz _ rfl ?_; intro g1 cap1 w5 hown hgrow hat hlt1; rw [show ints K ++ ints n.ks = ints (K ++ n.ks) from by simp [ints]] at hown; have hm := HS1.out.drew.lies (i := 4) rfl hown hgrow hat; clear q0 f0 hown hgrow hat; have q0 := hm.cell (i := 3) rfl 0 (.slice ta K.length tcap) rfl; have f0 := hm.free (i := 3) rfl 0; have H1 := hideIt (hm.store (i := 3) (j := 0) rfl (.slice (some ⟨g1, 0, none⟩) (K.length + n.ks.length) cap1) rfl); clear hm)
                  all_goals
                    go_wp2
                    go_meet
                    case rel =>
                      have e : K.length + n.ks.length = (K ++ n.ks).length := by rw [List.length_append]
                      rw [e] at H1 ⊢
                      exact ⟨_, H1.out⟩
              case rest =>
                obtain ⟨kv', hM5⟩ := hcut
                clear q0 f0 n0 n3 hgnl HS1
                have n1 := hM5.out.cell (i := 0) rfl 1 (.int .i64 n.lk) rfl
                have n4 := hM5.out.cell (i := 0) rfl 4 (.slice va n.vs.length vc) rfl
                have hgnl : gn < wc.heap.size := lt_of_cell n1
                have q0 := hM5.out.cell (i := 3) rfl 1 (.slice ua K.length ucap) rfl
                have f0 := hM5.out.free (i := 3) rfl 1
                have HFIN : Hid (RowSt t ps true (lastK (K ++ n.ks)) n.lk (K ++ n.ks) (V ++ n.vs)) := by
                  obtain ⟨j', h1, h2, h3, h4⟩ := HNX.out
                  exact Or.inr ⟨j', h1, h2, by rw [← h3], h3, h4⟩
                have HLN : Hid ((V ++ n.vs).length = (K ++ n.ks).length ∧ (K ++ n.ks).length ≤ 384) := by
                  unfold Hid
                  rw [List.length_append, List.length_append]
                  have h1 := hkl.out.1
                  have h2 := HVL.out
                  have h3 := HKV.out
                  have h4 := HKL.out
                  omega
                go_upto_region 21 with fail
                by_cases hks : n.vs.length = 0
                · have HZE : Hid (V ++ n.vs = V ∧ (K ++ n.ks).length = K.length) := by
                    have h2 := HVL.out
                    refine ⟨by rw [List.eq_nil_of_length_eq_zero hks, List.append_nil], ?_⟩
                    rw [List.length_append]; omega
                  have HS2 := hideIt ((hM5.out.store (i := 3) (j := 1) rfl (.slice ua K.length ucap) rfl).drew)
                  have HKS := hideIt hks
                  clear hks
                  go_region_law (refine step_append_zero rfl _ _ 22 rfl gt 3 i0 1 Tryd.underlying22 hi0 _ K.length (ints V) rfl (hM5.out.get (i := 5) rfl).own _ _ _ rfl HKS.out ?_)
                  all_goals
                    have n1 := HS2.out.cell (i := 0) rfl 1 (.int .i64 n.lk) rfl
                    go_wp2
                    go_roundw
                    case rel =>
                      refine ⟨true, n.lk, _, K ++ n.ks, V ++ n.vs, kv', .slice ua K.length ucap, bn.set p true, rfl, rfl, rfl, HFIN.out, HLN.out, ⟨HB2.out.1, fun q hq => HB2.out.2 _ HNEAR.out q hq⟩, ?_⟩
                      have h9 := HS2.out.sub (l' := [_, _, _, _]) (List.sublist_append_right [_, _, _] [_, _, _, _])
                      rw [HZE.out.1]
                      rw [show (K ++ n.ks).length = K.length from HZE.out.2] at h9 ⊢
                      exact h9
                    case measure =>
                      show mq m n.lk < mq m (p : Int)
                      rw [mq_nat]; have := HNEAR.out; omega
                · obtain ⟨kg, kcap, hka⟩ := As.form (hM5.out.get (i := 2) rfl) (by omega)
                  cases hka
                  have h378 := HKV.out
                  have hkr : As.holds wc gt (.row 3 1 (.slice (some ⟨kg, 0, none⟩) n.vs.length vc) n.vs.length (ints n.vs)) := hM5.out.get (i := 2) rfl
                  have hv6 : n.vs.length ≤ 6 := by have := HVL.out; have := HKL.out; omega
                  go_region_law (refine step_append_lies _ rfl _ _ 22 rfl gt 3 i0 (.int .i64 0) 1 8 Tryd.underlying22 hi0 hz0 hz1 hz2 rfl (by decide) _ K.length (ints V) rfl (hM5.out.get (i := 5) rfl) ⟨_, 0, none⟩ n.vs.length _ (ints n.vs) rfl (by rw [len_ints, Nat.mul_one]) (World.ownsRow.cells hkr rfl) (by simp [ints, Value.oneCell']) (by omega) (by unfold maxLen; omega) (by omega) hM5.out.sz _ rfl ?_; intro g1 cap1 w5 hown hgrow hat hlt1; rw [show ints V ++ ints n.vs = ints (V ++ n.vs) from by simp [ints]] at hown; have hm := hM5.out.drew.lies (i := 5) rfl hown hgrow hat; clear q0 f0 hown hgrow hat; have q0 := hm.cell (i := 3) rfl 1 (.slice ua K.length ucap) rfl; have f0 := hm.free (i := 3) rfl 1; have H1 := hideIt (hm.store (i := 3) (j := 1) rfl (.slice (some ⟨g1, 0, none⟩) (K.length + n.vs.length) cap1) rfl); clear hm; have n1b := H1.out.cell (i := 0) rfl 1 (.int .i64 n.lk) rfl)
                  all_goals
                    go_wp2
                    go_roundw
                    case rel =>
                      have h9 := H1.out.sub (l' := [_, _, _, _]) (List.sublist_append_right [_, _, _] [_, _, _, _])
                      have e : K.length + n.vs.length = (K ++ n.ks).length := by rw [List.length_append]; have := HVL.out; omega
                      rw [e] at h9 ⊢
                      exact ⟨true, n.lk, lastK (K ++ n.ks), K ++ n.ks, V ++ n.vs, kv', .slice (some ⟨g1, 0, none⟩) (K ++ n.ks).length cap1, bn.set p true, rfl, rfl, rfl, HFIN.out, HLN.out, ⟨HB2.out.1, fun q hq => HB2.out.2 _ HNEAR.out q hq⟩, h9⟩
                    case measure =>
                      show mq m n.lk < mq m (p : Int)
                      rw [mq_nat]; have := HNEAR.out; omega
end Go.Proofs.YtajobgmnmbnhiaaDoor.Sap
