/- WHAT IS PROVED HERE: each access of an operation that is under way, and each beginning, keeps what holds at any time (Inv); an operation that moves comes nearer to its end (no program's function is walked). Conditions: none but those named at each theorem. -/
import Derived.Test.YtajobgmnmbnhiaaGreatDoorPt40
namespace Go.Proofs.YtajobgmnmbnhiaaGreatDoor.Sap
open Go.RowKit
def EvOn (x : Wd) (t t' : Tre) (s s' : St) (d : Dd) (U' : List Bool) (o o' : List Dn) : Prop :=
  ((∀ p : Nat, U'[p]? = some true → x.U[p]? = some true ∨ (p : Int) ∈ s'.sp) ∧ (∀ a ∈ s.sp, a ∈ s'.sp ∨ ∃ q : Nat, a = (q : Int) ∧ t'.inn q)) ∧
  ((t' = t ∧ s'.lv = s.lv ∧ s'.ch = s.ch ∧ o' = o) ∨ (∃ p N, Swd x t t' s p N o ∧ CgAt t p s.kd (wantV s) (entV s) ∧ (t.nd p).lv = s.lv ∧ pgsN (t.nd p) s = 1 ∧ s' = enS (t.nd p) s ∧ o' = if s.lv = 0 then o ++ [⟨x.now, d.k, d.key, d.v⟩] else o))
def EvFin (x : Wd) (t t' : Tre) (s : St) (d : Dd) (rf1 : Bool) (er : Int) (U' : List Bool) (o o' : List Dn) : Prop :=
  U' = x.U ∧ (er = 0 ∨ (er = 4 ∧ d.k = 2 ∧ rf1 = true)) ∧
  ((t' = t ∧ (s.lv = 0 ∨ rf1 = true ∨ ∃ p, t.inn p ∧ (t.nd p).lv = 9) ∧ (o' = o ∨ (d.k = 3 ∧ o' = o ++ [⟨x.now, d.k, d.key, d.v⟩]))) ∨ (∃ p N, Swd x t t' s p N o ∧ CgAt t p s.kd (wantV s) (entV s) ∧ (t.nd p).lv = s.lv ∧ s.pg = (p : Int) ∧ pgsN (t.nd p) s ≠ 1 ∧ o' = if s.lv = 0 then o ++ [⟨x.now, d.k, d.key, d.v⟩] else o))
def AccG (wt : Bool) (gw : Nat) (x : Wd) (t : Tre) (S : Nat → St) (o : List Dn) (c i : Nat) (d : Dd) (m : Nat → Nat) : Prop :=
  ∃ T' U' V' kns' rf1 r, Moves d.k d.f x.T x.U x.V d.kns d.rf T' U' V' kns' rf1 r ∧ (d.rf = true → rf1 = true) ∧
    ((∃ s' t' o' m', r = .on s' ∧ EvOn x t t' (S i) s' d U' o o' ∧ RkOk t' m' ∧ rnk m' V' s' < rnk m x.V (S i) ∧ ∀ tm f rf', f.data.toList = frT s' → Inv wt gw { x with T := T', U := U', V := V', now := x.now + 1, rf := rf', ds := x.ds.set i (d.go x.now tm f kns' rf1) } t' (upS S i s') o') ∨
     (∃ t' o' er fd va pt ks vs cs, r = .fin er fd va pt ks vs cs ∧ EvFin x t t' (S i) d rf1 er U' o o' ∧ ∀ tm kv vv cv rf', Inv wt gw { x with T := T', U := U', V := V', bs := x.bs.set c (-1), now := x.now + 1, rf := rf', ds := x.ds.set i (d.fin x.now kns' rf1 er fd va pt ks vs cs tm kv vv cv) } t' (upS S i (S i)) o'))
theorem free_or (U : List Bool) : (∀ k : Nat, k < U.length → U[k]? = some true) ∨ ∃ g : Nat, U[g]? = some false ∧ ∀ k : Nat, k < g → U[k]? = some true := by
  induction U with
  | nil => exact Or.inl fun k hk => by cases hk
  | cons a r ih =>
    cases a with
    | false => exact Or.inr ⟨0, rfl, fun k hk => by omega⟩
    | true =>
      rcases ih with h | ⟨g, h1, h2⟩
      · refine Or.inl fun k hk => ?_
        cases k with
        | zero => rfl
        | succ k => exact h k (by simpa using hk)
      · refine Or.inr ⟨g + 1, h1, fun k hk => ?_⟩
        cases k with
        | zero => rfl
        | succ k => exact h2 k (by omega)
theorem Mov.acc {wt : Bool} {gw : Nat} {x : Wd} {t : Tre} {S : Nat → St} {o : List Dn} {c i : Nat} {d : Dd} (h : Mov wt gw x t S o c i d) {m : Nat → Nat} (hm : RkOk t m) : AccG wt gw x t S o c i d m := by
  have L := h.live
  by_cases hsw : (S i).sw = ⟨#[]⟩
  · obtain ⟨p, tx, ver, R⟩ := h.rdPg hsw
    by_cases hgo : rdGo (S i) (t.nd p)
    · obtain ⟨a1, a2, a3⟩ := h.rd_on hm hsw R.pg R.p64 R.inn R.U R.T R.V R.un R.v0 hgo
      rw [L.kd] at a1
      exact ⟨_, _, _, _, _, _, a1, id, Or.inl ⟨_, t, o, m, rfl, ⟨⟨fun _ hp => Or.inl hp, fun _ ha => Or.inl ha⟩, Or.inl ⟨rfl, rfl, rfl, rfl⟩⟩, hm, a3, a2⟩⟩
    · have hk := L.ok.rng
      rcases (show (S i).kd = 1 ∨ (S i).kd = 4 ∨ (S i).kd = 3 ∨ (S i).kd = 2 by omega) with hk | hk | hk | hk
      · obtain ⟨a1, a2⟩ := h.rd_get hsw R.pg R.p64 R.U R.T R.V R.un R.v0 hgo hk
        rw [L.kd] at a1
        exact ⟨_, _, _, _, _, _, a1, id, Or.inr ⟨t, o, _, _, _, _, _, _, _, rfl, ⟨rfl, Or.inl rfl, Or.inl ⟨rfl, Or.inl (L.ok.lv0 (by omega)), Or.inl rfl⟩⟩, a2⟩⟩
      · have P : ScW wt gw x t S o c i d p tx ver := ⟨h, R, hgo, hk⟩
        cases he : scEnd (S i) (t.nd p)
        · obtain ⟨a1, a2, a3⟩ := P.rd_more hm he
          rw [L.kd] at a1
          exact ⟨_, _, _, _, _, _, a1, id, Or.inl ⟨_, t, o, m, rfl, ⟨⟨fun _ hp => Or.inl hp, fun _ ha => Or.inl ha⟩, Or.inl ⟨rfl, rfl, rfl, rfl⟩⟩, hm, a3, a2⟩⟩
        · obtain ⟨a1, a2⟩ := P.rd_end he
          rw [L.kd] at a1
          exact ⟨_, _, _, _, _, _, a1, id, Or.inr ⟨t, o, _, _, _, _, _, _, _, rfl, ⟨rfl, Or.inl rfl, Or.inl ⟨rfl, Or.inl (L.ok.lv0 (by omega)), Or.inl rfl⟩⟩, a2⟩⟩
      · by_cases hno : lmap (t.nd p) d.key = none
        · obtain ⟨a1, a2⟩ := h.rd_miss R hgo hk hno
          rw [L.kd] at a1
          exact ⟨_, _, _, _, _, _, a1, id, Or.inr ⟨t, _, _, _, _, _, _, _, _, rfl, ⟨rfl, Or.inl rfl, Or.inl ⟨rfl, Or.inl (L.ok.lv0 (by omega)), Or.inr ⟨by rw [← L.kd]; exact hk, rfl⟩⟩⟩, a2⟩⟩
        · have hl0 := L.ok.lv0 (by omega)
          obtain ⟨a1, a2, a3⟩ := h.rd_see (m := m) R hgo (Or.inr ⟨hk, hno⟩) (fun e => by have := e.2; omega)
          rw [L.kd] at a1
          exact ⟨_, _, _, _, _, _, a1, id, Or.inl ⟨_, t, o, m, rfl, ⟨⟨fun _ hp => Or.inl hp, fun _ ha => Or.inl ha⟩, Or.inl ⟨rfl, rfl, rfl, rfl⟩⟩, hm, a3, a2⟩⟩
      · by_cases hl9 : crwB (t.nd p) (S i) = true ∧ (S i).lv = 9
        · obtain ⟨a1, a2⟩ := h.rd_last R hgo hl9
          rw [L.kd] at a1
          exact ⟨_, _, _, _, _, _, a1, id, Or.inr ⟨t, o, _, _, _, _, _, _, _, rfl, ⟨rfl, Or.inl rfl, Or.inl ⟨rfl, Or.inr (Or.inr ⟨p, R.inn, by rw [(h.leaf R.pg hgo).1]; exact hl9.2⟩), Or.inl rfl⟩⟩, a2⟩⟩
        · obtain ⟨a1, a2, a3⟩ := h.rd_see (m := m) R hgo (Or.inl hk) hl9
          rw [L.kd] at a1
          exact ⟨_, _, _, _, _, _, a1, id, Or.inl ⟨_, t, o, m, rfl, ⟨⟨fun _ hp => Or.inl hp, fun _ ha => Or.inl ha⟩, Or.inl ⟨rfl, rfl, rfl, rfl⟩⟩, hm, a3, a2⟩⟩
  · obtain ⟨n, W⟩ := L.wr hsw
    by_cases h1 : (S i).laid = pgsN n (S i)
    · by_cases hV : x.V[(S i).pg.toNat]? = some (S i).ver
      · obtain ⟨p, rfl, P⟩ := h.swP hsw W h1 hV
        obtain ⟨t', N, A⟩ := P.turn
        by_cases hp : pgsN (t.nd p) (S i) = 1
        · obtain ⟨m', hm1, hm2⟩ := rank_ex t' A.tu.ok
          obtain ⟨a1, a2, a3⟩ := P.enter A (m := m) (m' := m') ⟨hm1, hm2⟩ hp
          rw [L.kd] at a1
          refine ⟨_, _, _, _, _, _, a1, id, Or.inl ⟨_, t', _, m', rfl, ⟨⟨fun _ hp => Or.inl hp, fun a ha => ?_⟩, Or.inr ⟨p, N, A, P.cgAt, P.W.pl.lv, hp, rfl, rfl⟩⟩, ⟨hm1, hm2⟩, a3, a2⟩⟩
          obtain ⟨-, -, rr, hr1, ⟨cc, c1, c2, -⟩, -⟩ := A.en hp
          obtain ⟨k, hk⟩ := mem_sp ha
          cases k with
          | zero =>
            rw [hr1] at hk
            have e := Option.some.inj hk
            exact Or.inr ⟨cc, by rw [← e]; exact c1, c2⟩
          | succ k =>
            refine Or.inl (List.mem_iff_getElem?.2 ⟨k, ?_⟩)
            show ((S i).sp.drop 1)[k]? = some a
            rw [List.getElem?_drop, Nat.add_comm]; exact hk
        · by_cases hl : (S i).lv = 0
          · obtain ⟨a1, a2, -⟩ := P.end0 A hp hl
            rw [L.kd] at a1
            exact ⟨_, _, _, _, _, _, a1, id, Or.inr ⟨t', _, _, _, _, _, _, _, _, rfl, ⟨rfl, Or.inl rfl, Or.inr ⟨p, N, A, P.cgAt, P.W.pl.lv, P.pg, hp, (if_pos hl).symm⟩⟩, a2⟩⟩
          · obtain ⟨a1, a2⟩ := P.endN A hp (by have := L.ok.lvb; omega)
            rw [L.kd] at a1
            exact ⟨_, _, _, _, _, _, a1, id, Or.inr ⟨t', _, _, _, _, _, _, _, _, rfl, ⟨rfl, Or.inl rfl, Or.inr ⟨p, N, A, P.cgAt, P.W.pl.lv, P.pg, hp, (if_neg hl).symm⟩⟩, a2⟩⟩
      · obtain ⟨a1, a2, a3⟩ := h.wr_not (m := m) hsw W h1 hV
        rw [L.kd] at a1
        exact ⟨_, _, _, _, _, _, a1, id, Or.inl ⟨_, t, o, m, rfl, ⟨⟨fun _ hp => Or.inl hp, fun _ ha => Or.inl ha⟩, Or.inl ⟨rfl, rfl, rfl, rfl⟩⟩, hm, a3, a2⟩⟩
    · by_cases h2 : (S i).laid < (S i).sp.length
      · obtain ⟨g, ver, -, a1, a2, a3⟩ := h.wr_spare (m := m) hsw W h1 h2
        rw [L.kd] at a1
        exact ⟨_, _, _, _, _, _, a1, id, Or.inl ⟨_, t, o, m, rfl, ⟨⟨fun _ hp => Or.inl hp, fun _ ha => Or.inl ha⟩, Or.inl ⟨rfl, rfl, rfl, rfl⟩⟩, hm, a3, a2⟩⟩
      · rcases free_or x.U with hU | ⟨g, hg, hU⟩
        · rw [h.inv.ul] at hU
          have hcr : crwB n (S i) = true := (pgsN_le n (S i)).2.2.1.1 (by have := W.pl.laid; have := L.ok.laid0; omega)
          have hk2 : d.k = 2 := by rw [← L.kd]; exact (crowd_len (chi_of L.ok W.pl.un.1 W.pl.lv W.pl.kd W.pl.w2) hcr).2.2.2
          rcases h.wr_full hsw W h1 h2 hU with ⟨-, a1, a2⟩ | ⟨-, a1, a2⟩
          · rw [L.kd] at a1
            exact ⟨_, _, _, _, _, _, a1, fun _ => rfl, Or.inr ⟨t, o, _, _, _, _, _, _, _, rfl, ⟨rfl, Or.inr ⟨rfl, hk2, rfl⟩, Or.inl ⟨rfl, Or.inr (Or.inl rfl), Or.inl rfl⟩⟩, a2⟩⟩
          · rw [L.kd] at a1
            exact ⟨_, _, _, _, _, _, a1, fun _ => rfl, Or.inr ⟨t, o, _, _, _, _, _, _, _, rfl, ⟨rfl, Or.inl rfl, Or.inl ⟨rfl, Or.inr (Or.inl rfl), Or.inl rfl⟩⟩, a2⟩⟩
        · obtain ⟨a1, a2, a3⟩ := h.wr_fresh (m := m) hsw W h1 h2 hg hU
          rw [L.kd] at a1
          refine ⟨_, _, _, _, _, _, a1, id, Or.inl ⟨_, t, o, m, rfl, ⟨⟨fun p hp => ?_, fun a ha => Or.inl (List.mem_append.2 (Or.inl ha))⟩, Or.inl ⟨rfl, rfl, rfl, rfl⟩⟩, hm, a3, a2⟩⟩
          rcases set_some hp with ⟨e, -⟩ | ⟨-, e⟩
          · exact Or.inr (List.mem_append.2 (Or.inr (by rw [e]; simp)))
          · exact Or.inl e
def bgS (k key v : Int) : St := ⟨k, key, valS k v, 0, 0, [], [], [], [], ⟨#[]⟩, 0, [], [], 0, 0, 0, 0, 0⟩
theorem opR_parts {k key v : Int} (h : opR k key v = true) : 1 ≤ key ∧ key ≤ 9999 ∧ (k = 1 ∨ k = 3 ∨ (k = 2 ∧ 0 ≤ v ∧ v ≤ 9999) ∨ (k = 4 ∧ key ≤ v ∧ v ≤ 9999)) := by
  simp only [opR, Bool.and_eq_true, Bool.or_eq_true, decide_eq_true_eq] at h
  omega
theorem opR_valS {k key v : Int} (h : opR k key v = true) : opR k key (valS k v) = true := by
  have h1 := opR_parts h
  unfold valS
  simp only [opR, Bool.and_eq_true, Bool.or_eq_true, decide_eq_true_eq]
  split <;> omega
theorem valS_rng {k key v : Int} (h : opR k key v = true) : 0 ≤ valS k v ∧ valS k v ≤ 9999 := by
  have h1 := opR_parts h
  unfold valS
  split <;> omega
theorem bgS_ok {k key v : Int} (h : opR k key v = true) : StOk (bgS k key v) := by
  have hv := valS_rng h
  refine ⟨opR_valS h, ⟨hv.1, by show valS k v ≤ _; omega⟩, fr0, ⟨Int.le_refl _, by show (0 : Int) ≤ 63; decide⟩, fun _ hx => (by cases hx), fun _ hx => (by cases hx), fun _ hx => (by cases hx), rfl, by show 0 < 12; decide, rfl, by show 0 ≤ 64; decide, rfl, Or.inr ⟨rfl, rfl, rfl, rfl⟩, fr0, fr0, fr0, fr0, fr0, fr0, by show (⟨#[]⟩ : ByteArray).size ≤ 47; decide, Or.inl ⟨rfl, rfl, rfl⟩, fun _ hx => (by cases hx), fun _ hx => (by cases hx), Or.inr rfl, rfl, by show 0 ≤ 2; decide, Int.le_refl _, Or.inl ⟨rfl, rfl, rfl, rfl⟩⟩
theorem Inv.begun {wt : Bool} {gw : Nat} {x : Wd} {t : Tre} {S : Nat → St} {o : List Dn} (h : Inv wt gw x t S o) {c : Nat} (hc : c < 64) (hb : x.bs[c]? = some (-1)) {k key v : Int} (ho : opR k key v = true) (gd kg kc : Nat) (f : ByteArray) (dv : Value) (hf : f.data.toList = frT (bgS k key v)) :
    Inv wt gw ({ x with dv := dv, bs := x.bs.set c x.ds.length, puts := pu k x.puts, ds := x.ds ++ [Dd.new gd kg kc k key v f] } : Wd) t (upS S x.ds.length (bgS k key v)) o := by
  have hcb : c < x.bs.length := by rw [h.bsl]; exact hc
  have hlt : ∀ (k i : Nat), x.bs[k]? = some (i : Int) → i < x.ds.length := fun k i h1 => by
    have hk : k < 64 := by rw [← h.bsl]; exact (List.getElem?_eq_some_iff.1 h1).1
    rcases h.bs k hk with h2 | ⟨j, d, h2, h3, -⟩
    · rw [h1] at h2; have := Option.some.inj h2; omega
    · rw [h1] at h2
      have := Option.some.inj h2
      have := (List.getElem?_eq_some_iff.1 h3).1
      omega
  have upne : ∀ j, j < x.ds.length → upS S x.ds.length (bgS k key v) j = S j := fun j hj => if_neg (by omega)
  have upeq : upS S x.ds.length (bgS k key v) x.ds.length = bgS k key v := if_pos rfl
  have get : ∀ (i : Nat) (d : Dd), (x.ds ++ [Dd.new gd kg kc k key v f])[i]? = some d → (i < x.ds.length ∧ x.ds[i]? = some d) ∨ (i = x.ds.length ∧ d = Dd.new gd kg kc k key v f) := fun i d hd => by
    rcases Nat.lt_trichotomy i x.ds.length with hi | hi | hi
    · rw [List.getElem?_append_left hi] at hd; exact Or.inl ⟨hi, hd⟩
    · rw [List.getElem?_append_right (by omega), hi, Nat.sub_self] at hd
      cases hd
      exact Or.inr ⟨hi, rfl⟩
    · rw [List.getElem?_eq_none (by rw [List.length_append, List.length_singleton]; omega)] at hd
      cases hd
  refine ⟨h.pg, h.kp, h.wt, h.ov, h.tl, h.ul, h.vl, h.tok, h.lf, h.say, h.us, h.vb, h.now, ?_, ?_, fun j hj => ?_, fun j j' i h1 h2 => ?_, fun i d hd => ?_, fun i j d e hd he hdn hen hij a ha => ?_, fun i d hd he => ?_, h.os, ?_, h.ot, h.ok⟩
  · show 0 ≤ pu k x.puts ∧ pu k x.puts ≤ ((x.ds ++ [_]).length : Int)
    have := h.puts
    rw [List.length_append, List.length_singleton]
    unfold pu
    split <;> omega
  · show (x.bs.set c _).length = 64; rw [List.length_set]; exact h.bsl
  · show (x.bs.set c (x.ds.length : Int))[j]? = some (-1) ∨ ∃ (i : Nat) (d : Dd), (x.bs.set c (x.ds.length : Int))[j]? = some (i : Int) ∧ (x.ds ++ [Dd.new gd kg kc k key v f])[i]? = some d ∧ d.en = false
    by_cases hkc : c = j
    · subst hkc
      exact Or.inr ⟨x.ds.length, _, List.getElem?_set_self hcb, by rw [List.getElem?_append_right (Nat.le_refl _), Nat.sub_self]; rfl, rfl⟩
    · rw [List.getElem?_set_ne hkc]
      rcases h.bs j hj with h1 | ⟨i, d, h1, h2, h3⟩
      · exact Or.inl h1
      · exact Or.inr ⟨i, d, h1, by rw [List.getElem?_append_left (List.getElem?_eq_some_iff.1 h2).1]; exact h2, h3⟩
  · replace h1 : (x.bs.set c (x.ds.length : Int))[j]? = some (i : Int) := h1
    replace h2 : (x.bs.set c (x.ds.length : Int))[j']? = some (i : Int) := h2
    by_cases hkc : c = j
    · by_cases hkc' : c = j'
      · omega
      · subst hkc
        rw [List.getElem?_set_self hcb] at h1
        rw [List.getElem?_set_ne hkc'] at h2
        have := hlt j' i h2
        have := Option.some.inj h1
        omega
    · rw [List.getElem?_set_ne hkc] at h1
      by_cases hkc' : c = j'
      · subst hkc'
        rw [List.getElem?_set_self hcb] at h2
        have := hlt j i h1
        have := Option.some.inj h2
        omega
      · rw [List.getElem?_set_ne hkc'] at h2
        exact h.inj j j' i h1 h2
  · rcases get i d hd with ⟨hi, hd2⟩ | ⟨hi, rfl⟩
    · rw [upne i hi]; exact h.ds i d hd2
    · subst hi
      rw [upeq]
      have hop := opR_parts ho
      refine ⟨ho, by show ((0 : Nat) : Int) ≤ x.now; have := h.now; omega, fun τ hτ => (by cases hτ), List.Pairwise.nil, by show (List.replicate 64 (-1 : Int)).length = 64; rw [List.length_replicate], fun _ => ?_, fun e => Bool.noConfusion e⟩
      refine ⟨⟨rfl, rfl, rfl, rfl, rfl, rfl, rfl, rfl, rfl, rfl, rfl⟩, bgS_ok ho, hf, rfl, rfl, rfl, rfl, ⟨List.Pairwise.nil, fun j a hj => ?_⟩, fun e => ?_, ?_, fun e => absurd rfl e, fun _ => ⟨Scn.first _ _ _ _, fun b hb => ?_⟩⟩
      · replace hj : ([] : List Int)[j]? = some a := hj
        simp at hj
      · have : (0 : Int) < 0 := e
        omega
      · have hw : wantV (bgS k key v) = key := rfl
        show Way t 0 0 (wantV (bgS k key v))
        rw [hw]
        exact Way.root h.tok ((right_bd _ (h.tok.rt 0 h.tok.r0)).1) (by omega)
      · cases hb
  · rcases get i d hd with ⟨hi, hd2⟩ | ⟨hi, rfl⟩
    · rw [upne i hi] at ha
      rcases get j e he with ⟨hj, he2⟩ | ⟨hj, rfl⟩
      · rw [upne j hj]; exact h.apart i j d e hd2 he2 hdn hen hij a ha
      · subst hj
        rw [upeq]
        exact List.not_mem_nil
    · subst hi
      rw [upeq] at ha
      cases ha
  · show ∃ j, j < 64 ∧ (x.bs.set c (x.ds.length : Int))[j]? = some (i : Int)
    rcases get i d hd with ⟨hi, hd2⟩ | ⟨hi, rfl⟩
    · obtain ⟨k', h1, h2⟩ := h.own i d hd2 he
      have hkc : c ≠ k' := fun e => by subst e; rw [hb] at h2; have := Option.some.inj h2; omega
      exact ⟨k', h1, by rw [List.getElem?_set_ne hkc]; exact h2⟩
    · exact ⟨c, hc, by rw [List.getElem?_set_self hcb, hi]⟩
  · show o.Perm (effs (upS S x.ds.length (bgS k key v)) (x.ds ++ [Dd.new gd kg kc k key v f]))
    unfold effs
    rw [List.length_append, List.length_singleton, List.range_succ, List.filterMap_append]
    have e1 : effA (upS S x.ds.length (bgS k key v)) (x.ds ++ [Dd.new gd kg kc k key v f]) x.ds.length = none := by
      unfold effA
      rw [List.getElem?_append_right (Nat.le_refl _), Nat.sub_self, upeq]; rfl
    have e2 : List.filterMap (effA (upS S x.ds.length (bgS k key v)) (x.ds ++ [Dd.new gd kg kc k key v f])) [x.ds.length] = [] := by rw [List.filterMap_cons, e1]; rfl
    rw [e2, List.append_nil, fm_same (effA S x.ds) _ _ fun j hj => ?_]
    · exact h.op
    · unfold effA; rw [upne j hj, List.getElem?_append_left hj]
def Tre.one : Tre := ⟨fun _ => ⟨0, -1, 10000, [], []⟩, fun p => p = 0, fun _ => 0⟩
theorem Tre.one_ok : Tre.one.Ok := by
  refine ⟨fun _ _ => (by show rightB ⟨0, -1, 10000, [], []⟩ = true; decide), fun p hp => ?_, rfl, rfl, rfl, fun p hp h0 => absurd hp h0, fun _ _ => ⟨Int.le_refl _, by show (0 : Int) < 10000; decide⟩, fun _ _ k hk => (by cases hk), fun _ _ h0 => ?_, fun _ _ hh => absurd rfl hh, fun _ _ h0 => ?_, fun p q hp hq _ hne => ?_, fun _ _ hl => ?_⟩
  · have : p = 0 := hp
    omega
  · have : (0 : Int) < 0 := h0
    omega
  · have : (0 : Int) < 0 := h0
    omega
  · have h1 : p = 0 := hp
    have h2 : q = 0 := hq
    exact absurd (h1.trans h2.symm) hne
  · have : (0 : Int) < 0 := hl
    omega
theorem inv_first (gw tg tc ug uc vg vc bg bc : Nat) : Inv false gw (Wd.first gw tg tc ug uc vg vc bg bc) Tre.one (fun _ => bgS 1 1 0) [] := by
  have hb : ∀ c, c < 64 → (List.replicate 64 (-1 : Int))[c]? = some (-1) := fun c hc => by rw [List.getElem?_replicate, if_pos hc]
  refine ⟨rfl, rfl, rfl, rfl, rfl, rfl, rfl, Tre.one_ok, fun p hp h0 q q1 q2 => rfl, fun p hp => ?_, fun p hp => ?_, fun p v hv => ?_, Int.le_refl _, ⟨Int.le_refl _, Int.le_refl _⟩, ?_, fun c hc => Or.inl (hb c hc), fun c c' i h1 _ => ?_, fun i d hd => (by cases hd), fun i j d e hd => (by cases hd), fun i d hd => (by cases hd), List.Pairwise.nil, List.Perm.refl _, fun e he => (by cases he), fun e he => (by cases he)⟩
  · have e : p = 0 := hp
    subst e
    exact ⟨by decide, rfl, firstB, rfl, first_unp⟩
  · have e : p = 0 := by
      cases p with
      | zero => rfl
      | succ p =>
        replace hp : (List.replicate 63 false)[p]? = some true := hp
        rw [List.getElem?_replicate] at hp
        split at hp
        · cases hp
        · cases hp
    subst e
    exact ⟨_, by decide, rfl, firstB, rfl, first_unp⟩
  · replace hv : (List.replicate 64 (0 : Int))[p]? = some v := hv
    rw [List.getElem?_replicate] at hv
    split at hv
    · have := Option.some.inj hv
      show 0 ≤ v ∧ v ≤ 0
      omega
    · cases hv
  · show (List.replicate 64 (-1 : Int)).length = 64; rw [List.length_replicate]
  · replace h1 : (List.replicate 64 (-1 : Int))[c]? = some (i : Int) := h1
    have hc : c < 64 := by have := (List.getElem?_eq_some_iff.1 h1).1; rw [List.length_replicate] at this; exact this
    rw [hb c hc] at h1
    have := Option.some.inj h1
    omega
theorem Inv.allEnded {wt : Bool} {gw : Nat} {x : Wd} {t : Tre} {S : Nat → St} {o : List Dn} (h : Inv wt gw x t S o) (hid : ∀ c, c < 64 → x.bs[c]? = some (-1)) : ∀ (i : Nat) (d : Dd), x.ds[i]? = some d → d.en = true ∧ DdOk t x.T x.U x.V o x.now (S i) d := by
  intro i d hi
  refine ⟨?_, h.ds i d hi⟩
  cases he : d.en with
  | true => rfl
  | false =>
    obtain ⟨c, hc, hb⟩ := h.own i d hi he
    rw [hid c hc] at hb
    have := Option.some.inj hb
    omega
theorem Inv.over {wt : Bool} {gw : Nat} {x : Wd} {t : Tre} {S : Nat → St} {o : List Dn} (h : Inv wt gw x t S o) (hid : ∀ c, c < 64 → x.bs[c]? = some (-1)) (hn : x.now ≤ 90000000) : ∀ d ∈ x.ds, d.over := by
  intro d hd
  obtain ⟨i, hi⟩ := List.mem_iff_getElem?.1 hd
  obtain ⟨he, hD⟩ := h.allEnded hid i d hi
  obtain ⟨p, h1, h2⟩ := (hD.ed he).p
  exact ⟨he, p, h1, h2, by have := hD.nt; omega⟩
theorem fm_take {β : Type} (ds : List Dd) (g : Nat → Dd → Option β) (f : Dd → Option β) (hg : ∀ (i : Nat) (d : Dd), ds[i]? = some d → g i d = f d) (n : Nat) : (List.range n).filterMap (fun i => (ds[i]?).bind (g i)) = (ds.take n).filterMap f := by
  induction n with
  | zero => simp
  | succ n ih =>
    rw [List.range_succ, List.filterMap_append, ih, List.take_add_one, List.filterMap_append]
    congr 1
    have e : List.filterMap (fun i => (ds[i]?).bind (g i)) [n] = ((ds[n]?).bind (g n)).toList := by
      rw [List.filterMap_cons]
      cases (ds[n]?).bind (g n) <;> rfl
    rw [e]
    cases hd : ds[n]? with
    | none => rfl
    | some d =>
      show (g n d).toList = List.filterMap f [d]
      rw [hg n d hd, List.filterMap_cons]
      cases f d <;> rfl
theorem Inv.effs_all {wt : Bool} {gw : Nat} {x : Wd} {t : Tre} {S : Nat → St} {o : List Dn} (h : Inv wt gw x t S o) (hid : ∀ c, c < 64 → x.bs[c]? = some (-1)) : effs S x.ds = tkL x.ds := by
  have h1 := fm_take x.ds (fun i d => effD (S i) d) tkD (fun i d hd => effD_end (h.allEnded hid i d hd).1) x.ds.length
  rw [List.take_length] at h1
  exact h1
theorem Inv.uniq {wt : Bool} {gw : Nat} {x : Wd} {t : Tre} {S : Nat → St} {o o' : List Dn} (h : Inv wt gw x t S o) (hid : ∀ c, c < 64 → x.bs[c]? = some (-1)) (hp : o'.Perm (tkL x.ds)) (hs : Srt o') : o' = o := by
  refine srt_uniq o o' h.os ?_ hs
  rw [← h.effs_all hid] at hp
  exact hp.trans h.op.symm
theorem ahead_ok {o : List Dn} (h : ∀ e ∈ o, e.k = 2 ∨ e.k = 3) (τ : Int) : ∀ e ∈ ahead o τ, e.k = 2 ∨ e.k = 3 := fun e he => h e ((List.takeWhile_sublist _).mem he)
theorem sorted_idx {ks : List Int} (hp : ks.Pairwise (· < ·)) (a : Int) : ∀ (j : Nat) (hj : j < ks.length), ks[j] < a ↔ j < (ks.filter fun q => decide (q < a)).length := by
  induction ks with
  | nil => intro j hj; cases hj
  | cons x r ih =>
    obtain ⟨h1, h2⟩ := List.pairwise_cons.1 hp
    intro j hj
    by_cases hx : x < a
    · rw [List.filter_cons, if_pos (by simpa using hx), List.length_cons]
      cases j with
      | zero => simpa using hx
      | succ j =>
        have := ih h2 j (by simpa using hj)
        simp only [List.getElem_cons_succ]
        omega
    · have hno : r.filter (fun q => decide (q < a)) = [] := List.filter_eq_nil_iff.2 fun y hy => by have := h1 y hy; simp; omega
      rw [List.filter_cons, if_neg (by simpa using hx), hno]
      simp only [List.length_nil, Nat.not_lt_zero, iff_false]
      cases j with
      | zero => simpa using hx
      | succ j =>
        simp only [List.getElem_cons_succ]
        have := h1 _ (List.getElem_mem (show j < r.length by simpa using hj))
        omega
def Up (t : Tre) (q : Nat) : Prop := ∃ p, t.inn p ∧ (t.nd p).lv = (t.nd q).lv + 1 ∧ (t.low q, (q : Int)) ∈ ent (t.nd p)
structure Ct (t : Tre) : Prop where
  top : 0 < (t.nd 0).lv → 2 ≤ (t.nd 0).ks.length
  mid : ∀ p, t.inn p → p ≠ 0 → 0 < (t.nd p).lv → 3 ≤ (t.nd p).ks.length
theorem cg_in {n : Nd} {k key v : Int} (h : ChI n k key v) {e : Int × Int} (he : e ∈ ent n) (hne : e.1 ≠ key) : e ∈ ent (cg n k key v) := by
  have hb := right_kb n h.rt e.1 (ent_key he).1
  unfold ent cg
  simp only
  rw [(ch_zip n k key v (right_bd n h.rt).2.2.2.1).2, List.mem_append, List.mem_append, List.mem_filter, List.mem_filter]
  simp only [Bool.and_eq_true, decide_eq_true_eq]
  by_cases hq : e.1 < key
  · exact Or.inl (Or.inl ⟨he, by omega, hq⟩)
  · exact Or.inr ⟨he, by omega, hb.2⟩
theorem cg_new {n : Nd} {k key v : Int} (h : ChI n k key v) (hk : k = 2) : (key, v) ∈ ent (cg n k key v) := by
  unfold ent cg
  simp only
  rw [(ch_zip n k key v (right_bd n h.rt).2.2.2.1).2, List.mem_append, List.mem_append]
  exact Or.inl (Or.inr (by rw [if_pos hk]; simp))
theorem nodup_sub {l l' : List Int} (hn : l.Nodup) (h : ∀ a ∈ l, a ∈ l') : l.length ≤ l'.length := by
  induction l generalizing l' with
  | nil => exact Nat.zero_le _
  | cons a r ih =>
    obtain ⟨h1, h2⟩ := List.nodup_cons.1 hn
    have ha := h a (by simp)
    have h3 := ih (l' := l'.erase a) h2 fun b hb => (List.mem_erase_of_ne (show b ≠ a from fun e => h1 (e ▸ hb))).2 (h b (by simp [hb]))
    rw [List.length_erase, if_pos ha] at h3
    have := List.length_pos_of_mem ha
    rw [List.length_cons]; omega
theorem cg_more {n : Nd} {k key v : Int} (h : ChI n k key v) (hk : k = 2) : n.ks.length ≤ (cg n k key v).ks.length :=
  nodup_sub ((right_pw n h.rt).imp fun h e => by omega) fun a ha => (cg_ks h a).2 (by
    by_cases e : a = key
    · exact Or.inr ⟨hk, e⟩
    · exact Or.inl ⟨ha, e⟩)
theorem flt2 (ks : List Int) (low hi : Int) (h : ∀ q ∈ ks, 0 ≤ q ∧ q < hi) : (ks.filter fun q => decide (0 ≤ q) && decide (q < low)).length + (ks.filter fun q => decide (low ≤ q) && decide (q < hi)).length = ks.length := by
  induction ks with
  | nil => rfl
  | cons x r ih =>
    have hx := h x (by simp)
    have ih := ih fun q hq => h q (by simp [hq])
    rw [List.filter_cons, List.filter_cons]
    by_cases h1 : x < low
    · rw [if_pos (show (decide (0 ≤ x) && decide (x < low)) = true by simp; omega), if_neg (show ¬ (decide (low ≤ x) && decide (x < hi)) = true by simp; omega), List.length_cons, List.length_cons]
      omega
    · rw [if_neg (show ¬ (decide (0 ≤ x) && decide (x < low)) = true by simp; omega), if_pos (show (decide (low ≤ x) && decide (x < hi)) = true by simp; omega), List.length_cons, List.length_cons]
      omega
theorem half_cnt {n : Nd} {s : St} (H : Halves n s.kd (wantV s) (entV s) (lowV n s)) (hl : n.lv ≠ 0) (r : Int) : 3 ≤ (lftN (chgN n s) (lowV n s) r).ks.length ∧ 3 ≤ (rgtN (chgN n s) (lowV n s)).ks.length := by
  have hlen : (chgN n s).ks.length = 7 := (crowd_len H.i H.cr).2.1 hl
  obtain ⟨-, -, hm1, hm2⟩ := H.mem
  have hmid : midV n s = 4 := by unfold midV; rw [hlen]
  have hlow : (chgN n s).ks[4]? = some (lowV n s) := by
    have hc : crwB n s = true := H.cr
    unfold lowV
    rw [if_pos hc, hmid, List.getElem?_eq_getElem (by omega)]; rfl
  obtain ⟨h4, h4e⟩ := List.getElem?_eq_some_iff.1 hlow
  have hp := cg_pw H.i
  have hbd := cg_bd H.i
  have h0l : 0 ≤ least n.lv := by unfold least; split <;> omega
  have hb : ∀ q ∈ (chgN n s).ks, 0 ≤ q ∧ q < n.hi := fun q hq => by have := hbd q hq; omega
  have hsum := flt2 (chgN n s).ks (lowV n s) n.hi hb
  have e1 : (chgN n s).ks.filter (fun q => decide (0 ≤ q) && decide (q < lowV n s)) = (chgN n s).ks.filter (fun q => decide (q < lowV n s)) := List.filter_congr fun q hq => by have := hb q hq; simp; omega
  have k3 := (sorted_idx hp (lowV n s) 3 (show 3 < (chgN n s).ks.length by omega)).1 (by
    have := List.pairwise_iff_getElem.1 hp 3 4 (show 3 < (chgN n s).ks.length by omega) h4 (by omega)
    have e : (cg n s.kd (wantV s) (entV s)).ks[4]'h4 = lowV n s := h4e
    rw [e] at this
    exact this)
  have k4 : ¬ 4 < ((chgN n s).ks.filter fun q => decide (q < lowV n s)).length := fun hlt => by
    have := (sorted_idx hp (lowV n s) 4 h4).2 hlt
    have e : (cg n s.kd (wantV s) (entV s)).ks[4]'h4 = lowV n s := h4e
    rw [e] at this
    omega
  have eL : (lftN (chgN n s) (lowV n s) r).ks = (chgN n s).ks.filter (fun q => decide (0 ≤ q) && decide (q < lowV n s)) := H.ksL r
  have eR : (rgtN (chgN n s) (lowV n s)).ks = (chgN n s).ks.filter (fun q => decide (lowV n s ≤ q) && decide (q < n.hi)) := H.ksR
  have k3' : 3 < ((chgN n s).ks.filter fun q => decide (q < lowV n s)).length := k3
  rw [eL, eR]
  rw [e1] at hsum ⊢
  omega
theorem same_kid {t : Tre} (h : t.Ok) {a b : Nat} (ha : t.inn a) (hb : t.inn b) (hl : (t.nd a).lv = (t.nd b).lv) (hlo : t.low a = t.low b) : a = b := by
  have h1 := h.lo a ha
  have h2 := h.lo b hb
  exact h.alone (key := t.low a) ha hb hl (Int.le_refl _) h1.2 (by omega) (by omega)
theorem half_ent {n : Nd} {k key v low : Int} (H : Halves n k key v low) (r : Int) {e : Int × Int} (he : e ∈ ent (cg n k key v)) : e ∈ ent (lftN (cg n k key v) low r) ∨ e ∈ ent (rgtN (cg n k key v) low) := by
  have hb := cg_bd H.i e.1 (ent_key he).1
  have h0l : 0 ≤ least n.lv := by unfold least; split <;> omega
  by_cases hl : e.1 < low
  · refine Or.inl ?_
    rw [H.enL, List.mem_filter]
    exact ⟨he, by simp; omega⟩
  · refine Or.inr ?_
    rw [H.enR, List.mem_filter]
    exact ⟨he, by simp; omega⟩
theorem Swd.star {x : Wd} {t t' : Tre} {s : St} {p : Nat} {N : Nat → Nd → Prop} {o : List Dn} (A : Swd x t t' s p N o) (C : CgAt t p s.kd (wantV s) (entV s)) {e : Int × Int} (he : e ∈ ent (cg (t.nd p) s.kd (wantV s) (entV s))) : ∃ p', t'.inn p' ∧ (t'.nd p').lv = (t.nd p).lv ∧ e ∈ ent (t'.nd p') := by
  rcases A.sh with ⟨-, rfl⟩ | ⟨H, hp0, r, -, hr, rfl⟩ | ⟨H, rfl, -, l, r, hl, hr, l1, r1, hlr, rfl⟩
  · exact ⟨p, C.inn, by rw [t.put_self]; rfl, by rw [t.put_self]; exact he⟩
  · have hrp : p ≠ r := fun e => hr (e ▸ C.inn)
    rcases half_ent H r he with h1 | h1
    · refine ⟨p, Or.inl C.inn, ?_, ?_⟩
      · show (if p = r then _ else if p = p then _ else t.nd p : Nd).lv = _
        rw [if_neg hrp, if_pos rfl]; rfl
      · show e ∈ ent (if p = r then _ else if p = p then _ else t.nd p : Nd)
        rw [if_neg hrp, if_pos rfl]; exact h1
    · refine ⟨r, Or.inr rfl, ?_, ?_⟩
      · show (if r = r then _ else _ : Nd).lv = _
        rw [if_pos rfl]; rfl
      · show e ∈ ent (if r = r then _ else _ : Nd)
        rw [if_pos rfl]; exact h1
  · rcases half_ent H r he with h1 | h1
    · have e1 : (t.grow l r s.kd (wantV s) (entV s) (lowV (t.nd 0) s)).nd l = lftN (cg (t.nd 0) s.kd (wantV s) (entV s)) (lowV (t.nd 0) s) r := by
        show (if l = 0 then _ else if l = r then _ else if l = l then _ else _ : Nd) = _
        rw [if_neg (by omega), if_neg hlr, if_pos rfl]
      exact ⟨l, Or.inl (Or.inr rfl), by rw [e1]; rfl, by rw [e1]; exact h1⟩
    · have e1 : (t.grow l r s.kd (wantV s) (entV s) (lowV (t.nd 0) s)).nd r = rgtN (cg (t.nd 0) s.kd (wantV s) (entV s)) (lowV (t.nd 0) s) := by
        show (if r = 0 then _ else if r = r then _ else _ : Nd) = _
        rw [if_neg (by omega), if_pos rfl]
      exact ⟨r, Or.inr rfl, by rw [e1]; rfl, by rw [e1]; exact h1⟩
theorem Swd.keep {x : Wd} {t t' : Tre} {s : St} {p : Nat} {N : Nat → Nd → Prop} {o : List Dn} (A : Swd x t t' s p N o) (C : CgAt t p s.kd (wantV s) (entV s)) (h : t.Ok) {q : Nat} (hq : t.inn q) (h0 : q ≠ 0) (hu : Up t q) : Up t' q := by
  obtain ⟨p0, a1, a2, a3⟩ := hu
  have el := A.tu.gr.low q hq
  have ev := A.tu.gr.lvE q hq h0
  by_cases e : p0 = p
  · subst e
    have hlv : 0 < (t.nd p0).lv := by have := (right_bd _ (h.rt q hq)).1; omega
    have hm : (t.low q, (q : Int)) ∈ ent (cg (t.nd p0) s.kd (wantV s) (entV s)) := by
      by_cases hk : t.low q = wantV s
      · obtain ⟨c, c1, c2, c3, c4⟩ := C.kid hlv
        have hc : q = c := same_kid h hq c2 (by omega) (by rw [hk]; exact c3.symm)
        have := cg_new C.i (C.i.v1 hlv).1
        rw [show entV s = (c : Int) from c1] at this ⊢
        rw [hk, hc]; exact this
      · exact cg_in C.i a3 hk
    obtain ⟨p', b1, b2, b3⟩ := A.star C hm
    exact ⟨p', b1, by rw [b2, ev]; exact a2, by rw [el]; exact b3⟩
  · have en := A.tu.old p0 a1 e
    exact ⟨p0, A.tu.gr.inn p0 a1, by rw [en, ev]; exact a2, by rw [en, el]; exact a3⟩
theorem Swd.ent {x : Wd} {t t' : Tre} {s : St} {p : Nat} {N : Nat → Nd → Prop} {o : List Dn} (A : Swd x t t' s p N o) (C : CgAt t p s.kd (wantV s) (entV s)) (hlv : (t.nd p).lv = s.lv) (hl : 0 < s.lv) : ∃ c : Nat, s.ch = (c : Int) ∧ Up t' c := by
  obtain ⟨c, c1, c2, c3, c4⟩ := C.kid (by omega)
  have e2 : entV s = s.ch := by unfold entV; rw [if_pos hl]
  have c0 : c ≠ 0 := fun e => by have h1 := (C.i.v1 (by omega)).2.1; have h2 : entV s = (c : Int) := c1; omega
  have := cg_new C.i (C.i.v1 (by omega)).1
  obtain ⟨p', b1, b2, b3⟩ := A.star C this
  refine ⟨c, by rw [← e2]; exact c1, p', b1, by rw [b2, A.tu.gr.lvE c c2 c0]; exact c4.symm, ?_⟩
  rw [A.tu.gr.low c c2]
  rw [show entV s = (c : Int) from c1] at b3
  rw [show t.low c = wantV s from c3]
  exact b3
theorem Swd.came {x : Wd} {t t' : Tre} {s : St} {p : Nat} {N : Nat → Nd → Prop} {o : List Dn} (A : Swd x t t' s p N o) {q : Nat} (hq : t'.inn q) (hn : ¬ t.inn q) : Up t' q ∨ (pgsN (t.nd p) s = 1 → s.sp[0]? = some (q : Int)) := by
  rcases A.sh with ⟨-, e⟩ | ⟨H, hp0, r, hr1, hr, e⟩ | ⟨H, rfl, hpg, l, r, hl, hr, l1, r1, hlr, e⟩
  · rw [e] at hq; exact absurd hq hn
  · rw [e] at hq
    refine Or.inr fun _ => ?_
    rcases hq with hq | hq
    · exact absurd hq hn
    · rw [hq]; exact hr1
  · refine Or.inr fun e1 => absurd e1 hpg
theorem Swd.came2 {x : Wd} {t t' : Tre} {s : St} {p : Nat} {N : Nat → Nd → Prop} {o : List Dn} (A : Swd x t t' s p N o) (hpg : pgsN (t.nd p) s ≠ 1) (hpg2 : crwB (t.nd p) s = true → p = 0) {q : Nat} (hq : t'.inn q) (hn : ¬ t.inn q) : Up t' q := by
  rcases A.sh with ⟨-, e⟩ | ⟨H, hp0, r, hr1, hr, e⟩ | ⟨H, rfl, -, l, r, hl, hr, l1, r1, hlr, rfl⟩
  · rw [e] at hq; exact absurd hq hn
  · exact absurd (hpg2 H.cr) hp0
  · have n0 : (t.grow l r s.kd (wantV s) (entV s) (lowV (t.nd 0) s)).nd 0 = topN (cg (t.nd 0) s.kd (wantV s) (entV s)) (lowV (t.nd 0) s) l r := Tre.put_self _ _ _
    have nl : (t.grow l r s.kd (wantV s) (entV s) (lowV (t.nd 0) s)).nd l = lftN (cg (t.nd 0) s.kd (wantV s) (entV s)) (lowV (t.nd 0) s) r := by
      show (if l = 0 then _ else if l = r then _ else if l = l then _ else _ : Nd) = _
      rw [if_neg (by omega), if_neg hlr, if_pos rfl]
    have nr : (t.grow l r s.kd (wantV s) (entV s) (lowV (t.nd 0) s)).nd r = rgtN (cg (t.nd 0) s.kd (wantV s) (entV s)) (lowV (t.nd 0) s) := by
      show (if r = 0 then _ else if r = r then _ else _ : Nd) = _
      rw [if_neg (by omega), if_pos rfl]
    have wl : (t.grow l r s.kd (wantV s) (entV s) (lowV (t.nd 0) s)).low l = 0 := by
      show (if l = r then _ else if l = l then (0 : Int) else _) = 0
      rw [if_neg hlr, if_pos rfl]
    have wr : (t.grow l r s.kd (wantV s) (entV s) (lowV (t.nd 0) s)).low r = lowV (t.nd 0) s := if_pos rfl
    have i0 := A.tu.ok.r0
    rcases hq with (hq | rfl) | rfl
    · exact absurd hq hn
    · refine ⟨0, i0, by rw [n0, nl]; rfl, ?_⟩
      rw [n0, wl]
      show ((0 : Int), (q : Int)) ∈ [((0 : Int), (q : Int)), (lowV (t.nd 0) s, (r : Int))]
      simp
    · refine ⟨0, i0, by rw [n0, nr]; rfl, ?_⟩
      rw [n0, wr]
      show (lowV (t.nd 0) s, (q : Int)) ∈ [((0 : Int), (l : Int)), (lowV (t.nd 0) s, (q : Int))]
      simp
theorem Swd.ct {x : Wd} {t t' : Tre} {s : St} {p : Nat} {N : Nat → Nd → Prop} {o : List Dn} (A : Swd x t t' s p N o) (C : CgAt t p s.kd (wantV s) (entV s)) (h : Ct t) : Ct t' := by
  have put : ∀ n : Nd, n = cg (t.nd p) s.kd (wantV s) (entV s) → 0 < n.lv → (t.nd p).ks.length ≤ n.ks.length := fun n e hl => by subst e; exact cg_more C.i (C.i.v1 hl).1
  rcases A.sh with ⟨-, rfl⟩ | ⟨H, hp0, r, -, hr, rfl⟩ | ⟨H, rfl, -, l, r, hl, hr, l1, r1, hlr, rfl⟩
  · have hle : ∀ q, 0 < ((t.put p (chgN (t.nd p) s)).nd q).lv → 0 < (t.nd q).lv ∧ (t.nd q).ks.length ≤ ((t.put p (chgN (t.nd p) s)).nd q).ks.length := fun q hq => by
      by_cases e : q = p
      · subst e; rw [t.put_self] at hq ⊢; exact ⟨hq, put _ rfl hq⟩
      · rw [t.put_ne _ e] at hq ⊢; exact ⟨hq, Nat.le_refl _⟩
    exact ⟨fun h0 => by have h1 := hle 0 h0; have := h.top h1.1; omega, fun q hq hq0 hl => by have h1 := hle q hl; have := h.mid q hq hq0 h1.1; omega⟩
  · have hrp : p ≠ r := fun e => hr (e ▸ C.inn)
    have np : (t.split p r (lftN (chgN (t.nd p) s) (lowV (t.nd p) s) r) (rgtN (chgN (t.nd p) s) (lowV (t.nd p) s)) (lowV (t.nd p) s)).nd p = lftN (chgN (t.nd p) s) (lowV (t.nd p) s) r := by
      show (if p = r then _ else if p = p then _ else t.nd p : Nd) = _
      rw [if_neg hrp, if_pos rfl]
    have nr : (t.split p r (lftN (chgN (t.nd p) s) (lowV (t.nd p) s) r) (rgtN (chgN (t.nd p) s) (lowV (t.nd p) s)) (lowV (t.nd p) s)).nd r = rgtN (chgN (t.nd p) s) (lowV (t.nd p) s) := if_pos rfl
    have no : ∀ q, q ≠ r → q ≠ p → (t.split p r (lftN (chgN (t.nd p) s) (lowV (t.nd p) s) r) (rgtN (chgN (t.nd p) s) (lowV (t.nd p) s)) (lowV (t.nd p) s)).nd q = t.nd q := fun q h1 h2 => by
      show (if q = r then _ else if q = p then _ else t.nd q : Nd) = _
      rw [if_neg h1, if_neg h2]
    refine ⟨fun h0 => ?_, fun q hq hq0 hl => ?_⟩
    · have e := A.tu.old 0 
      by_cases h0r : 0 = r
      · have := A.tu.ok.h0
        subst h0r
        rw [nr] at h0 ⊢
        have := half_cnt H (show (t.nd p).lv ≠ 0 by have h1 : 0 < (t.nd p).lv := h0; omega) 0
        omega
      · rw [no 0 h0r (Ne.symm hp0)] at h0 ⊢; exact h.top h0
    · by_cases e : q = r
      · subst e
        rw [nr] at hl ⊢
        exact (half_cnt H (show (t.nd p).lv ≠ 0 by have h1 : 0 < (t.nd p).lv := hl; omega) 0).2
      · by_cases e2 : q = p
        · subst e2
          rw [np] at hl ⊢
          exact (half_cnt H (show (t.nd q).lv ≠ 0 by have h1 : 0 < (t.nd q).lv := hl; omega) r).1
        · rw [no q e e2] at hl ⊢
          rcases hq with hq | hq
          · exact h.mid q hq hq0 hl
          · exact absurd hq e
  · have n0 : (t.grow l r s.kd (wantV s) (entV s) (lowV (t.nd 0) s)).nd 0 = topN (cg (t.nd 0) s.kd (wantV s) (entV s)) (lowV (t.nd 0) s) l r := Tre.put_self _ _ _
    have nl : (t.grow l r s.kd (wantV s) (entV s) (lowV (t.nd 0) s)).nd l = lftN (cg (t.nd 0) s.kd (wantV s) (entV s)) (lowV (t.nd 0) s) r := by
      show (if l = 0 then _ else if l = r then _ else if l = l then _ else _ : Nd) = _
      rw [if_neg (by omega), if_neg hlr, if_pos rfl]
    have nr : (t.grow l r s.kd (wantV s) (entV s) (lowV (t.nd 0) s)).nd r = rgtN (cg (t.nd 0) s.kd (wantV s) (entV s)) (lowV (t.nd 0) s) := by
      show (if r = 0 then _ else if r = r then _ else _ : Nd) = _
      rw [if_neg (by omega), if_pos rfl]
    refine ⟨fun _ => by rw [n0]; exact Nat.le_refl _, fun q hq hq0 hlq => ?_⟩
    rcases hq with (hq | rfl) | rfl
    · have e := A.tu.old q hq hq0
      rw [e] at hlq ⊢
      exact h.mid q hq hq0 hlq
    · rw [nl] at hlq ⊢
      exact (half_cnt H (show (t.nd 0).lv ≠ 0 by have h1 : 0 < (t.nd 0).lv := hlq; omega) r).1
    · rw [nr] at hlq ⊢
      exact (half_cnt H (show (t.nd 0).lv ≠ 0 by have h1 : 0 < (t.nd 0).lv := hlq; omega) 0).2
end Go.Proofs.YtajobgmnmbnhiaaGreatDoor.Sap
