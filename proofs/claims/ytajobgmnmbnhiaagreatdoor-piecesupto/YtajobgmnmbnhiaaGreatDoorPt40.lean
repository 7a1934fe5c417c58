/- WHAT IS PROVED HERE: what the accesses of a Put and of a Drop make of the world ahead of their Swap of the node: the read that finds the node, the pages that are laid for a split, a Swap that is not done: what holds at any time (Inv) holds behind it (no program's function is walked). Conditions: none but those named at each theorem. -/
import Derived.Test.YtajobgmnmbnhiaaGreatDoorPt39
namespace Go.Proofs.YtajobgmnmbnhiaaGreatDoor.Sap
open Go.RowKit
theorem chi_of {n : Nd} {s : St} (hs : StOk s) (hr : rightB n = true) (hl : n.lv = s.lv) (hk : s.kd = 2 ∨ s.kd = 3) (hw : wantV s < n.hi) : ChI n s.kd (wantV s) (entV s) := by
  refine ⟨hr, hk, hs.want.1, hw, fun h0 h2 => ?_, fun h0 => ?_⟩
  · have h3 : entV s = s.val := by unfold entV; rw [if_neg (by omega)]
    rw [h3]
    have := hs.op
    simp only [opR, Bool.and_eq_true, Bool.or_eq_true, decide_eq_true_eq] at this
    omega
  · have h3 : entV s = s.ch := by unfold entV; rw [if_pos (by omega)]
    rw [h3]
    rcases hs.ent with h1 | h1
    · omega
    · exact ⟨h1.2.2.1, h1.2.2.2.2.2.2⟩
theorem halves_of {n : Nd} {s : St} (h : ChI n s.kd (wantV s) (entV s)) (hc : crwB n s = true) : Halves n s.kd (wantV s) (entV s) (lowV n s) := by
  have h1 := crowd_len h hc
  have hlen : (chgN n s).ks.length = 6 ∨ (chgN n s).ks.length = 7 := by
    by_cases h0 : n.lv = 0
    · exact Or.inl (h1.1 h0)
    · exact Or.inr (h1.2.1 h0)
  have hm : midV n s = ((chgN n s).ks.length + 1) / 2 := rfl
  have hlt : midV n s < (chgN n s).ks.length := by omega
  refine ⟨h, hc, midV n s, by omega, ?_⟩
  show (chgN n s).ks[midV n s]? = some (lowV n s)
  unfold lowV
  rw [if_pos hc, List.getElem?_eq_getElem hlt]; rfl
theorem pgsN_le (n : Nd) (s : St) : 0 ≤ pgsN n s ∧ pgsN n s ≤ 2 ∧ (0 < pgsN n s ↔ crwB n s = true) ∧ (crwB n s = true → pgsN n s = if s.pg = 0 then 2 else 1) := by
  unfold pgsN pgsV
  cases hc : crwB n s
  · simp
  · simp only [if_true]
    split <;> simp
theorem StOk.laid0 {s : St} (h : StOk s) : 0 ≤ s.laid ∧ s.laid ≤ 2 := by have := h.laid.1; have := h.laidL; have := h.sp2; omega
theorem StOk.spGet {s : St} (h : StOk s) {j : Nat} (hj : j < s.sp.length) : 1 ≤ s.sp[j]?.getD 0 ∧ s.sp[j]?.getD 0 ≤ 63 := by
  rw [List.getElem?_eq_getElem hj]
  exact h.sp _ (List.getElem_mem hj)
theorem plok_mk {n : Nd} {s : St} (hs : StOk s) (hu : Unp s.sw.data.toList n) (hl : n.lv = s.lv) (hk : s.kd = 2 ∨ s.kd = 3) (hw : wantV s < n.hi) (hlaid : s.laid ≤ pgsN n s) (hl9 : ¬ (crwB n s = true ∧ s.lv = 9)) : PlOk n s := by
  have hwb := hs.want
  have hI := chi_of hs hu.1 hl hk hw
  have hp := pgsN_le n s
  have h0 := hs.laid0
  have h1 := hs.laidL
  have h2 := hs.sp2
  refine ⟨hu, hl, hk, by omega, hwb.2.1, hw, hlaid, fun _ => ?_, ?_⟩
  · omega
  · unfold nxtN
    cases hc : crwB n s
    · exact cg_right hI hc
    · have H := halves_of hI hc
      have h9 : n.lv < 9 := by have := hs.lvb; have : s.lv ≠ 9 := fun e => hl9 ⟨hc, e⟩; omega
      show rightB (pcN (chgN n s) (lowV n s) s) = true
      unfold pcN
      by_cases e0 : s.laid = 0
      · rw [if_pos e0]; exact H.rtR
      · rw [if_neg e0]
        by_cases e1 : s.laid = 1
        · rw [if_pos e1]
          have := hs.spGet (j := 0) (by omega)
          exact H.rtL this.1 this.2
        · rw [if_neg e1]
          have g0 := hs.spGet (j := 0) (by omega)
          have g1 := hs.spGet (j := 1) (by omega)
          exact H.rtT h9 g1.1 g1.2 g0.1 g0.2
theorem unp_ne {t : ByteArray} {n : Nd} (h : Unp t.data.toList n) : t ≠ ⟨#[]⟩ := fun e => by
  have := (unp_size ⟨n, h⟩).1
  rw [e] at this
  exact absurd this (by decide)
theorem see_ok {s : St} {tx : ByteArray} {ver : Int} {n : Nd} (h : StOk s) (hk : s.kd = 2 ∨ s.kd = 3) (hu : Unp tx.data.toList n) (hv : 0 ≤ ver ∧ ver ≤ 1000000000) : StOk (seeS s tx ver) :=
  ⟨h.op, h.val, h.step, h.pg, h.keys, h.vals, h.pts, h.kl, h.kl12, h.bl, h.bl64, h.bel, h.seen, ⟨hv.1, by show ver ≤ _; omega⟩, h.laid, h.lv, h.low, h.ch, h.pt, (unp_size ⟨n, hu⟩).2, Or.inr ⟨unp_ne hu, hk⟩, h.sp, h.sv, h.spk, h.spl, h.sp2, h.laidL, h.ent⟩
theorem StOk.next {s : St} (h : StOk s) (hs : s.step ≤ 1000000000) : StOk { s with step := s.step + 1 } :=
  ⟨h.op, h.val, by have := h.step; unfold Fr at this ⊢; simp only; omega, h.pg, h.keys, h.vals, h.pts, h.kl, h.kl12, h.bl, h.bl64, h.bel, h.seen, h.ver, h.laid, h.lv, h.low, h.ch, h.pt, h.swL, h.sw, h.sp, h.sv, h.spk, h.spl, h.sp2, h.laidL, by
    rcases h.ent with h1 | h1
    · exact Or.inl h1
    · exact Or.inr ⟨h1.1, h1.2.1, h1.2.2.1, by show s.pt < s.step + 1; omega, h1.2.2.2.2⟩⟩
theorem StOk.laidRd {s : St} (h : StOk s) (hsw : s.sw = ⟨#[]⟩) : s.ver = 0 ∧ s.laid = 0 := by
  rcases h.sw with h1 | h1
  · exact h1.2
  · exact absurd hsw h1.1
theorem see_pl {n : Nd} {s : St} {tx : ByteArray} {ver : Int} (h : StOk s) (hsw : s.sw = ⟨#[]⟩) (hk : s.kd = 2 ∨ s.kd = 3) (hu : Unp tx.data.toList n) (hl : n.lv = s.lv) (hw : wantV s < n.hi) (hv : 0 ≤ ver ∧ ver ≤ 1000000000) : PlOk n (seeS s tx ver) := by
  have hs := see_ok h hk hu hv
  have hI : ChI n s.kd (wantV s) (entV s) := chi_of h hu.1 hl hk hw
  have hp := pgsN_le n (seeS s tx ver)
  have hl0 := (h.laidRd hsw).2
  have hwb := h.want
  refine ⟨hu, hl, hk, by show 0 ≤ wantV s; omega, hwb.2.1, hw, by show s.laid ≤ _; omega, fun _ => Or.inl hl0, ?_⟩
  unfold nxtN
  cases hc : crwB n (seeS s tx ver)
  · exact cg_right hI hc
  · have H : Halves n s.kd (wantV s) (entV s) (lowV n (seeS s tx ver)) := halves_of (s := seeS s tx ver) hI hc
    show rightB (pcN (chgN n s) (lowV n (seeS s tx ver)) (seeS s tx ver)) = true
    unfold pcN
    rw [if_pos (show (seeS s tx ver).laid = 0 from hl0)]
    exact H.rtR
theorem Mov.rd_see {wt : Bool} {gw : Nat} {x : Wd} {t : Tre} {S : Nat → St} {o : List Dn} {c i : Nat} {d : Dd} (h : Mov wt gw x t S o c i d) {m : Nat → Nat} {p : Nat} {tx : ByteArray} {ver : Int} (R : RdPg x t (S i) p tx ver) (hgo : ¬ rdGo (S i) (t.nd p)) (hk : (S i).kd = 2 ∨ ((S i).kd = 3 ∧ lmap (t.nd p) d.key ≠ none)) (hl9 : ¬ (crwB (t.nd p) (S i) = true ∧ (S i).lv = 9)) :
    Moves (S i).kd d.f x.T x.U x.V d.kns d.rf x.T x.U x.V (d.kns.set p ver) d.rf (.on { seeS (S i) tx ver with step := (S i).step + 1 }) ∧
    (∀ tm f rf', f.data.toList = frT { seeS (S i) tx ver with step := (S i).step + 1 } → Inv wt gw { x with now := x.now + 1, rf := rf', ds := x.ds.set i (d.go x.now tm f (d.kns.set p ver) d.rf) } t (upS S i { seeS (S i) tx ver with step := (S i).step + 1 }) o) ∧
    rnk m x.V { seeS (S i) tx ver with step := (S i).step + 1 } < rnk m x.V (S i) := by
  have L := h.live
  have hst := h.step
  have hnow := h.now
  have hD := h.inv.ds i d h.ds
  obtain ⟨k1, k2, k3, k4⟩ := h.leaf R.pg hgo
  have hk2 : (S i).kd = 2 ∨ (S i).kd = 3 := by rcases hk with h1 | h1; exact Or.inl h1; exact Or.inr h1.1
  have hvb : 0 ≤ ver ∧ ver ≤ 1000000000 := ⟨R.v0, by have := R.v1; omega⟩
  have hso := see_ok L.ok hk2 R.un hvb
  have hsn : StOk { seeS (S i) tx ver with step := (S i).step + 1 } := hso.next (by show (S i).step ≤ _; omega)
  have hpl := see_pl L.ok R.sw hk2 R.un k1 k2 hvb
  have hla := L.ok.laidRd R.sw
  have hpn : (S i).pg.toNat = p := by have := R.pg; omega
  have hkl : p < d.kns.length := by rw [hD.kl]; exact R.p64
  have hf := fnd_lmap R.un.1 (S i).key
  have hpg := pgsN_le (t.nd p) (seeS (S i) tx ver)
  refine ⟨mv_see (h.at_ R) _ _ hgo ?_ hso hpl (fun e => hl9 ⟨hpg.2.2.1.1 e.1, e.2⟩) hsn, fun tm f rf' hf => ?_, ?_⟩
  · rcases hk with h1 | h1
    · exact Or.inl h1
    · refine Or.inr ⟨h1.1, ?_⟩
      rw [hf.1, L.key]
      cases hq : lmap (t.nd p) d.key with
      | none => exact absurd hq h1.2
      | some v => rfl
  · refine h.inv.step h.cl h.bs h.ds h.en h.chg0 ⟨rfl, rfl, rfl⟩ rfl (by show (d.kns.set p ver).length = 64; rw [List.length_set]; exact hD.kl) (eff_live h.en h.en rfl rfl rfl ⟨rfl, rfl, rfl⟩ fun h0 => (L.ent h0).pt) (fun a ha => Or.inl ha) (Or.inl ⟨h.en, rfl, ?_⟩)
    refine ⟨L.live, hsn, hf, L.kd, L.key, L.val, ?_, L.spr.kns R.inn ver rfl rfl, fun h0 => ?_, L.way, fun e => ⟨t.nd p, ?_⟩, fun hk4 => ?_⟩
    · show (S i).step + 1 = ((d.ts ++ [x.now]).length : Int)
      rw [List.length_append, List.length_singleton, L.step]; rfl
    · have e := ent_mono (d' := d.go x.now tm f (d.kns.set p ver) d.rf) (Grows.refl t) L.ok h0 (L.ent h0) rfl (Or.inr ⟨x.now, rfl⟩) (fun _ _ => rfl)
      exact ⟨e.ch, e.pt, e.no⟩
    · refine ⟨⟨hpl.un, hpl.lv, hpl.kd, hpl.w0, hpl.w1, hpl.w2, hpl.laid, hpl.pc, hpl.rt⟩, ?_, ?_, hl9, fun e1 => ?_, fun e1 => ?_⟩
      · show (d.kns.set p ver)[(S i).pg.toNat]? = some ver
        rw [hpn]; exact List.getElem?_set_self hkl
      · show ∃ c, x.V[(S i).pg.toNat]? = some c ∧ 0 ≤ ver ∧ ver ≤ c ∧ (c = ver → x.T[(S i).pg.toNat]? = some tx)
        rw [hpn]; exact ⟨ver, R.V, R.v0, Int.le_refl _, fun _ => R.T⟩
      · have h1 : 1 ≤ (S i).laid := e1
        omega
      · have h1 : (S i).laid = 2 := e1
        omega
    · have h1 : (S i).kd = 4 := hk4
      omega
  · rw [rnk_rd R.sw, rnk_wr (show ({ seeS (S i) tx ver with step := (S i).step + 1 } : St).sw ≠ _ from unp_ne R.un)]
    show (2 - (S i).laid).toNat + 1 + (if x.V[(S i).pg.toNat]? = some ver then 70 * (9 - (S i).lv).toNat else m (S i).pg.toNat + 4 + 70 * (9 - (S i).lv).toNat) < _
    rw [hpn, if_pos R.V, hla.2]
    have e2 : ((2 : Int) - 0).toNat = 2 := rfl
    rw [e2]
    omega
theorem effD_end {s : St} {d : Dd} (h : d.en = true) : effD s d = tkD d := by unfold effD; rw [if_pos h]
theorem effD_lv {s : St} {d : Dd} (h : d.en = false) (hl : 0 < s.lv) : effD s d = some ⟨d.ts[s.pt.toNat]?.getD 0, d.k, d.key, d.v⟩ := by unfold effD; rw [if_neg (by rw [h]; decide), if_pos hl]
theorem effD_no {s : St} {d : Dd} (h : d.en = false) (hl : s.lv = 0) : effD s d = none := by unfold effD; rw [if_neg (by rw [h]; decide), if_neg (by omega)]
theorem fr0 : Fr 0 := ⟨by decide, by decide⟩
theorem Mov.fin_ent {wt : Bool} {gw : Nat} {x : Wd} {t t' : Tre} {S : Nat → St} {o : List Dn} {c i : Nat} {d : Dd} (h : Mov wt gw x t S o c i d) (hl : 0 < (S i).lv) {T' : List ByteArray} {U' : List Bool} {V' kns' : List Int} {rf1 : Bool} (C : Chg x.now t t' (S i) x.T T' x.U U' x.V V' o) (hkl : kns'.length = 64) (tm kv vv cv : Value) (rf' : Bool) :
    Inv wt gw { x with T := T', U := U', V := V', bs := x.bs.set c (-1), now := x.now + 1, rf := rf', ds := x.ds.set i (d.fin x.now kns' rf1 0 false 0 (S i).pt [] [] [] tm kv vv cv) } t' (upS S i (S i)) o := by
  have L := h.live
  have E := L.ent hl
  have hk2 : d.k = 2 := by
    rw [← L.kd]
    rcases L.ok.ent with h1 | h1
    · omega
    · exact h1.2.2.1
  have e1 : (d.ts ++ [x.now])[(S i).pt.toNat]?.getD 0 = d.ts[(S i).pt.toNat]?.getD 0 := ts_more E.pt
  have hat : (d.fin x.now kns' rf1 0 false 0 (S i).pt [] [] [] tm kv vv cv).at = d.ts[(S i).pt.toNat]?.getD 0 := e1
  refine h.inv.step h.cl h.bs h.ds h.en C ⟨rfl, rfl, rfl⟩ rfl hkl (Or.inl ⟨?_, rfl⟩) (fun a ha => Or.inl ha) (Or.inr ⟨rfl, rfl, ?_⟩)
  · refine (effD_end rfl).trans (Eq.trans ?_ (effD_lv h.en hl).symm)
    unfold tkD
    rw [if_pos ⟨Or.inl hk2, rfl⟩]
    show some (⟨(d.ts ++ [x.now])[(S i).pt.toNat]?.getD 0, d.k, d.key, d.v⟩ : Dn) = _
    rw [e1]
  · refine ⟨⟨(S i).pt.toNat, by have := E.pt; show (S i).pt = _; omega, by show (S i).pt.toNat < (d.ts ++ [x.now]).length; have := E.pt; rw [List.length_append]; omega⟩, Or.inr ⟨by show d.k ≠ 4; omega, rfl, rfl, rfl, Or.inr ⟨rfl, ?_, ?_⟩⟩⟩
    · rw [hat]
      show false = (mapO (ahead o (d.ts[(S i).pt.toNat]?.getD 0)) d.key).isSome
      rw [E.no]; rfl
    · rw [hat]
      show 0 = (mapO (ahead o (d.ts[(S i).pt.toNat]?.getD 0)) d.key).getD 0
      rw [E.no]; rfl
theorem Mov.rd_last {wt : Bool} {gw : Nat} {x : Wd} {t : Tre} {S : Nat → St} {o : List Dn} {c i : Nat} {d : Dd} (h : Mov wt gw x t S o c i d) {p : Nat} {tx : ByteArray} {ver : Int} (R : RdPg x t (S i) p tx ver) (hgo : ¬ rdGo (S i) (t.nd p)) (hl9 : crwB (t.nd p) (S i) = true ∧ (S i).lv = 9) :
    Moves (S i).kd d.f x.T x.U x.V d.kns d.rf x.T x.U x.V (d.kns.set p ver) d.rf (.fin 0 false 0 (S i).pt [] [] []) ∧
    ∀ tm kv vv cv rf', Inv wt gw { x with bs := x.bs.set c (-1), now := x.now + 1, rf := rf', ds := x.ds.set i (d.fin x.now (d.kns.set p ver) d.rf 0 false 0 (S i).pt [] [] [] tm kv vv cv) } t (upS S i (S i)) o := by
  have L := h.live
  have hst := h.step
  have hnow := h.now
  have hD := h.inv.ds i d h.ds
  obtain ⟨k1, k2, k3, k4⟩ := h.leaf R.pg hgo
  have hl : 0 < (S i).lv := by rw [hl9.2]; decide
  have hk2 : (S i).kd = 2 := by
    rcases L.ok.ent with h1 | h1
    · omega
    · exact h1.2.2.1
  have hvb : 0 ≤ ver ∧ ver ≤ 1000000000 := ⟨R.v0, by have := R.v1; omega⟩
  have hso := see_ok L.ok (Or.inl hk2) R.un hvb
  have hpl := see_pl L.ok R.sw (Or.inl hk2) R.un k1 k2 hvb
  have hpg := pgsN_le (t.nd p) (seeS (S i) tx ver)
  exact ⟨mv_last (h.at_ R) _ _ hgo hk2 hso hpl ⟨hpg.2.2.1.2 hl9.1, hl9.2⟩, fun tm kv vv cv rf' => h.fin_ent hl h.chg0 (by rw [List.length_set]; exact hD.kl) tm kv vv cv rf'⟩
theorem Mov.wrAt {wt : Bool} {gw : Nat} {x : Wd} {t : Tre} {S : Nat → St} {o : List Dn} {c i : Nat} {d : Dd} (h : Mov wt gw x t S o c i d) (hsw : (S i).sw ≠ ⟨#[]⟩) {n : Nd} (W : Wr x.T x.V d.kns (S i) n) : WrAt (S i) d.f n := ⟨h.live.f, h.live.ok, hsw, W.pl, by have := h.step; omega⟩
theorem Mov.wr_full {wt : Bool} {gw : Nat} {x : Wd} {t : Tre} {S : Nat → St} {o : List Dn} {c i : Nat} {d : Dd} (h : Mov wt gw x t S o c i d) (hsw : (S i).sw ≠ ⟨#[]⟩) {n : Nd} (W : Wr x.T x.V d.kns (S i) n) (h1 : (S i).laid ≠ pgsN n (S i)) (h2 : ¬ (S i).laid < (S i).sp.length) (hU : ∀ k : Nat, k < 64 → x.U[k]? = some true) :
    ((S i).lv = 0 ∧ Moves (S i).kd d.f x.T x.U x.V d.kns d.rf x.T x.U x.V d.kns true (.fin 4 false 0 0 [] [] []) ∧
      ∀ tm kv vv cv rf', Inv wt gw { x with bs := x.bs.set c (-1), now := x.now + 1, rf := rf', ds := x.ds.set i (d.fin x.now d.kns true 4 false 0 0 [] [] [] tm kv vv cv) } t (upS S i (S i)) o) ∨
    (0 < (S i).lv ∧ Moves (S i).kd d.f x.T x.U x.V d.kns d.rf x.T x.U x.V d.kns true (.fin 0 false 0 (S i).pt [] [] []) ∧
      ∀ tm kv vv cv rf', Inv wt gw { x with bs := x.bs.set c (-1), now := x.now + 1, rf := rf', ds := x.ds.set i (d.fin x.now d.kns true 0 false 0 (S i).pt [] [] [] tm kv vv cv) } t (upS S i (S i)) o) := by
  have L := h.live
  have hD := h.inv.ds i d h.ds
  have A := mv_fresh_no (T := x.T) (V := x.V) (h.wrAt hsw W) d.kns d.rf h1 h2 hU
  by_cases hl : (S i).lv = 0
  · refine Or.inl ⟨hl, ?_, fun tm kv vv cv rf' => ?_⟩
    · unfold frsR at A
      rw [if_pos rfl, if_pos hl] at A
      exact A
    · have hcr : crwB n (S i) = true := by
        have := (pgsN_le n (S i)).2.2.1
        refine this.1 ?_
        have := W.pl.laid
        have := L.ok.laid0
        omega
      have hk2 : d.k = 2 := by rw [← L.kd]; exact (crowd_len (chi_of L.ok W.pl.un.1 W.pl.lv W.pl.kd W.pl.w2) hcr).2.2.2
      refine h.inv.step h.cl h.bs h.ds h.en h.chg0 ⟨rfl, rfl, rfl⟩ rfl hD.kl (Or.inl ⟨?_, rfl⟩) (fun a ha => Or.inl ha) (Or.inr ⟨rfl, rfl, ?_⟩)
      · unfold effD
        rw [h.en, hl]
        show tkD _ = none
        unfold tkD
        rw [if_neg]
        show ¬ ((d.k = 2 ∨ d.k = 3) ∧ (4 : Int) = 0)
        omega
      · exact ⟨⟨0, rfl, by show 0 < (d.ts ++ [x.now]).length; simp⟩, Or.inr ⟨by show d.k ≠ 4; omega, rfl, rfl, rfl, Or.inl ⟨rfl, hk2, rfl, rfl⟩⟩⟩
  · have hl2 : 0 < (S i).lv := by have := L.ok.lvb; omega
    refine Or.inr ⟨hl2, ?_, fun tm kv vv cv rf' => h.fin_ent hl2 h.chg0 hD.kl tm kv vv cv rf'⟩
    unfold frsR at A
    rw [if_pos rfl, if_neg hl] at A
    exact A
theorem Mov.wr_not {wt : Bool} {gw : Nat} {x : Wd} {t : Tre} {S : Nat → St} {o : List Dn} {c i : Nat} {d : Dd} (h : Mov wt gw x t S o c i d) {m : Nat → Nat} (hsw : (S i).sw ≠ ⟨#[]⟩) {n : Nd} (W : Wr x.T x.V d.kns (S i) n) (h1 : (S i).laid = pgsN n (S i)) (hne : x.V[(S i).pg.toNat]? ≠ some (S i).ver) :
    Moves (S i).kd d.f x.T x.U x.V d.kns d.rf x.T x.U x.V d.kns d.rf (.on { clrS (S i) with pg := (S i).pg, step := (S i).step + 1 }) ∧
    (∀ tm f rf', f.data.toList = frT { clrS (S i) with pg := (S i).pg, step := (S i).step + 1 } → Inv wt gw { x with now := x.now + 1, rf := rf', ds := x.ds.set i (d.go x.now tm f d.kns d.rf) } t (upS S i { clrS (S i) with pg := (S i).pg, step := (S i).step + 1 }) o) ∧
    rnk m x.V { clrS (S i) with pg := (S i).pg, step := (S i).step + 1 } < rnk m x.V (S i) := by
  have L := h.live
  have hst := h.step
  have hnow := h.now
  have hD := h.inv.ds i d h.ds
  obtain ⟨p, tx, ver, p1, p2, p3, p4, p5, p6, p7, p8, p9, p10⟩ := h.page
  obtain ⟨cu, c1, c2, c3, c4⟩ := W.cur
  have hkn := W.kn
  rw [p3] at c1 hne hkn
  rw [p7] at c1 hne
  have hcu : ver = cu := Option.some.inj c1
  have hclr : StOk { clrS (S i) with pg := (S i).pg, step := (S i).step + 1 } := by
    have h0 := L.ok
    have hst := h.step
    exact ⟨h0.op, h0.val, by have := h0.step; unfold Fr at this ⊢; simp only; omega, h0.pg, h0.keys, h0.vals, h0.pts, h0.kl, h0.kl12, h0.bl, h0.bl64, h0.bel, h0.seen, fr0, fr0, h0.lv, h0.low, h0.ch, h0.pt, (by show (⟨#[]⟩ : ByteArray).size ≤ 47; decide), Or.inl ⟨rfl, rfl, rfl⟩, h0.sp, h0.sv, h0.spk, h0.spl, h0.sp2, by show (0 : Int) ≤ ((S i).sp.length : Int); omega, by
      rcases h0.ent with h1 | h1
      · exact Or.inl h1
      · exact Or.inr ⟨h1.1, h1.2.1, h1.2.2.1, by show (S i).pt < (S i).step + 1; omega, h1.2.2.2.2⟩⟩
  refine ⟨mv_swap_no (h.wrAt hsw W) _ _ h1 p1 p5 p7 (fun e => hne (by rw [e])) hkn ⟨c2, by omega⟩ hclr, fun tm f rf' hf => ?_, ?_⟩
  · refine h.inv.step h.cl h.bs h.ds h.en h.chg0 ⟨rfl, rfl, rfl⟩ rfl hD.kl (eff_live h.en h.en rfl rfl rfl ⟨rfl, rfl, rfl⟩ fun h0 => (L.ent h0).pt) (fun a ha => Or.inl ha) (Or.inl ⟨h.en, rfl, ?_⟩)
    refine ⟨L.live, hclr, hf, L.kd, L.key, L.val, ?_, ⟨L.spr.nd, L.spr.ok⟩, fun h0 => ?_, L.way, fun e => absurd rfl e, fun hk4 => ?_⟩
    · show (S i).step + 1 = ((d.ts ++ [x.now]).length : Int)
      rw [List.length_append, List.length_singleton, L.step]; rfl
    · have e := ent_mono (d' := d.go x.now tm f d.kns d.rf) (Grows.refl t) L.ok h0 (L.ent h0) rfl (Or.inr ⟨x.now, rfl⟩) (fun _ _ => rfl)
      exact ⟨e.ch, e.pt, e.no⟩
    · have h1 : (S i).kd = 4 := hk4
      have := W.pl.kd
      omega
  · rw [rnk_wr hsw, rnk_rd (show ({ clrS (S i) with pg := (S i).pg, step := (S i).step + 1 } : St).sw = _ from rfl)]
    show m (S i).pg.toNat + 4 + 70 * (9 - (S i).lv).toNat < _
    rw [p3, if_neg (by rw [p7]; exact hne)]
    omega
def layS (s : St) (sp sv : List Int) : St := { s with sp := sp, sv := sv, laid := s.laid + 1, step := s.step + 1 }
theorem txt_unp {n : Nd} {s : St} (h : PlOk n s) : Unp (txtN n s).data.toList (nxtN n s) := ⟨h.rt, by unfold txtN byt; simp⟩
theorem nxt_rgt {n : Nd} {s : St} (hc : crwB n s = true) (h : s.laid = 0) : nxtN n s = rgtN (chgN n s) (lowV n s) := by unfold nxtN pcN; rw [if_pos hc, if_pos h]
theorem nxt_lft {n : Nd} {s : St} (hc : crwB n s = true) (h : s.laid = 1) : nxtN n s = lftN (chgN n s) (lowV n s) (s.sp[0]?.getD 0) := by unfold nxtN pcN; rw [if_pos hc, if_neg (by omega), if_pos h]
theorem nxt_top {n : Nd} {s : St} (hc : crwB n s = true) (h : s.laid = 2) : nxtN n s = topN (chgN n s) (lowV n s) (s.sp[1]?.getD 0) (s.sp[0]?.getD 0) := by unfold nxtN pcN; rw [if_pos hc, if_neg (by omega), if_neg (by omega)]
theorem nxt_chg {n : Nd} {s : St} (hc : crwB n s = false) : nxtN n s = chgN n s := by unfold nxtN; rw [if_neg (by rw [hc]; decide)]
structure LayAt (T : List ByteArray) (s : St) (n : Nd) (sp' : List Int) (g : Nat) : Prop where
  lt : s.laid < pgsN n s
  at_ : sp'[s.laid.toNat]? = some (g : Int)
  old : ∀ k : Nat, k < s.laid.toNat → sp'[k]? = s.sp[k]?
  ne : ∀ (k r : Nat), k < s.laid.toNat → s.sp[k]? = some (r : Int) → r ≠ g
  pg : s.pg.toNat ≠ g
  gl : g < T.length
theorem wr_lay {T : List ByteArray} {V kns : List Int} {s : St} {n : Nd} {sp' sv' : List Int} {g : Nat} {v' : Int} (W : Wr T V kns s n) (hs : StOk s) (hs' : StOk (layS s sp' sv')) (A : LayAt T s n sp' g) : Wr (T.set g (txtN n s)) (V.set g v') (kns.set g v') (layS s sp' sv') n := by
  have hl0 := hs.laid0
  have hcr : crwB n s = true := (pgsN_le n s).2.2.1.1 (by have := A.lt; omega)
  have hp2 := (pgsN_le n s).2.1
  have hlt := A.lt
  have hu := txt_unp W.pl
  refine ⟨plok_mk hs' W.pl.un W.pl.lv W.pl.kd W.pl.w2 (by show s.laid + 1 ≤ pgsN n s; omega) W.l9, ?_, ?_, W.l9, fun _ => ?_, fun h2 => ?_⟩
  · show (kns.set g v')[s.pg.toNat]? = some s.ver
    rw [List.getElem?_set_ne (Ne.symm A.pg)]; exact W.kn
  · show ∃ c, (V.set g v')[s.pg.toNat]? = some c ∧ 0 ≤ s.ver ∧ s.ver ≤ c ∧ (c = s.ver → (T.set g (txtN n s))[s.pg.toNat]? = some s.sw)
    rw [List.getElem?_set_ne (Ne.symm A.pg), List.getElem?_set_ne (Ne.symm A.pg)]; exact W.cur
  · show ∃ (r : Nat) (tx : ByteArray), sp'[0]? = some (r : Int) ∧ (T.set g (txtN n s))[r]? = some tx ∧ Unp tx.data.toList (rgtN (chgN n s) (lowV n s))
    by_cases h0 : s.laid = 0
    · have hg := A.at_
      rw [h0] at hg
      rw [nxt_rgt hcr h0] at hu
      exact ⟨g, _, hg, List.getElem?_set_self A.gl, hu⟩
    · obtain ⟨r, tx, r1, r2, r3⟩ := W.rgt (by omega)
      have h0lt : 0 < s.laid.toNat := by omega
      exact ⟨r, tx, by rw [A.old 0 h0lt]; exact r1, by rw [List.getElem?_set_ne (Ne.symm (A.ne 0 r h0lt r1))]; exact r2, r3⟩
  · have h1 : s.laid = 1 := by have : s.laid + 1 = 2 := h2; omega
    show ∃ (l r : Nat) (tx : ByteArray), sp'[1]? = some (l : Int) ∧ sp'[0]? = some (r : Int) ∧ (T.set g (txtN n s))[l]? = some tx ∧ Unp tx.data.toList (lftN (chgN n s) (lowV n s) r)
    obtain ⟨r, tx, r1, r2, r3⟩ := W.rgt (by omega)
    have h0lt : 0 < s.laid.toNat := by omega
    have hg := A.at_
    rw [h1] at hg
    rw [nxt_lft hcr h1, r1] at hu
    exact ⟨g, r, _, hg, by rw [A.old 0 h0lt]; exact r1, List.getElem?_set_self A.gl, hu⟩
theorem Mov.lay {wt : Bool} {gw : Nat} {x : Wd} {t : Tre} {S : Nat → St} {o : List Dn} {c i : Nat} {d : Dd} (h : Mov wt gw x t S o c i d) {m : Nat → Nat} (hsw : (S i).sw ≠ ⟨#[]⟩) {n : Nd} (W : Wr x.T x.V d.kns (S i) n) {sp' sv' : List Int} {g : Nat} {v' : Int} {U' : List Bool} (A : LayAt x.T (S i) n sp' g)
    (hok : StOk (layS (S i) sp' sv')) (hspr : SprOk t U' (x.V.set g v') (d.kns.set g v') (layS (S i) sp' sv')) (C : Chg x.now t t (S i) x.T (x.T.set g (txtN n (S i))) x.U U' x.V (x.V.set g v') o) (hsp : ∀ a ∈ sp', a ∈ (S i).sp ∨ ∃ p : Nat, a = (p : Int) ∧ x.U[p]? = some false) :
    (∀ tm f rf', f.data.toList = frT (layS (S i) sp' sv') → Inv wt gw { x with T := x.T.set g (txtN n (S i)), U := U', V := x.V.set g v', now := x.now + 1, rf := rf', ds := x.ds.set i (d.go x.now tm f (d.kns.set g v') d.rf) } t (upS S i (layS (S i) sp' sv')) o) ∧
    rnk m (x.V.set g v') (layS (S i) sp' sv') < rnk m x.V (S i) := by
  have L := h.live
  have hD := h.inv.ds i d h.ds
  have hl0 := L.ok.laid0
  have hlt := A.lt
  have hp2 := (pgsN_le n (S i)).2.1
  refine ⟨fun tm f rf' hf => ?_, ?_⟩
  · refine h.inv.step h.cl h.bs h.ds h.en C ⟨rfl, rfl, rfl⟩ rfl (by show (d.kns.set g v').length = 64; rw [List.length_set]; exact hD.kl) (eff_live h.en h.en rfl rfl rfl ⟨rfl, rfl, rfl⟩ fun h0 => (L.ent h0).pt) hsp (Or.inl ⟨h.en, rfl, ?_⟩)
    refine ⟨L.live, hok, hf, L.kd, L.key, L.val, ?_, hspr, fun h0 => ?_, L.way, fun _ => ⟨n, wr_lay W L.ok hok A⟩, fun hk4 => ?_⟩
    · show (S i).step + 1 = ((d.ts ++ [x.now]).length : Int)
      rw [List.length_append, List.length_singleton, L.step]; rfl
    · have e := ent_mono (d' := d.go x.now tm f (d.kns.set g v') d.rf) (Grows.refl t) L.ok h0 (L.ent h0) rfl (Or.inr ⟨x.now, rfl⟩) (fun _ _ => rfl)
      exact ⟨e.ch, e.pt, e.no⟩
    · have h1 : (S i).kd = 4 := hk4
      have := W.pl.kd
      omega
  · rw [rnk_wr hsw, rnk_wr (show (layS (S i) sp' sv').sw ≠ _ from hsw)]
    show (2 - ((S i).laid + 1)).toNat + 1 + (if (x.V.set g v')[(S i).pg.toNat]? = some (S i).ver then 70 * (9 - (S i).lv).toNat else m (S i).pg.toNat + 4 + 70 * (9 - (S i).lv).toNat) < _
    rw [List.getElem?_set_ne (Ne.symm A.pg)]
    omega
theorem set_some {α : Type} {l : List α} {g p : Nat} {a b : α} (h : (l.set g a)[p]? = some b) : (p = g ∧ b = a) ∨ (p ≠ g ∧ l[p]? = some b) := by
  by_cases e : g = p
  · subst e
    have hl : g < l.length := by have := (List.getElem?_eq_some_iff.1 h).1; rw [List.length_set] at this; exact this
    rw [List.getElem?_set_self hl] at h
    exact Or.inl ⟨rfl, (Option.some.inj h).symm⟩
  · rw [List.getElem?_set_ne e] at h
    exact Or.inr ⟨Ne.symm e, h⟩
theorem us_set {T : List ByteArray} {U U' : List Bool} {g : Nat} {n : Nd} {tx : ByteArray} (h : ∀ p : Nat, U[p]? = some true → ∃ n, Says T U p n) (hg : g < T.length) (g64 : g < 64) (hu : Unp tx.data.toList n) (hU : ∀ p : Nat, U'[p]? = some true → p = g ∨ U[p]? = some true) : ∀ p : Nat, U'[p]? = some true → ∃ n, Says (T.set g tx) U' p n := fun p hp => by
  by_cases e : p = g
  · subst e
    exact ⟨n, g64, hp, tx, List.getElem?_set_self hg, hu⟩
  · rcases hU p hp with h1 | h1
    · exact absurd h1 e
    · obtain ⟨n2, k1, -, t, k3, k4⟩ := h p h1
      exact ⟨n2, k1, hp, t, by rw [List.getElem?_set_ne (Ne.symm e)]; exact k3, k4⟩
theorem says_set {T : List ByteArray} {U U' : List Bool} {p g : Nat} {n : Nd} {tx : ByteArray} (h : Says T U p n) (hne : p ≠ g) (hU : U[p]? = some true → U'[p]? = some true) : Says (T.set g tx) U' p n := by
  obtain ⟨h1, h2, t, h3, h4⟩ := h
  exact ⟨h1, hU h2, t, by rw [List.getElem?_set_ne (Ne.symm hne)]; exact h3, h4⟩
theorem Mov.wr_fresh {wt : Bool} {gw : Nat} {x : Wd} {t : Tre} {S : Nat → St} {o : List Dn} {c i : Nat} {d : Dd} (h : Mov wt gw x t S o c i d) {m : Nat → Nat} (hsw : (S i).sw ≠ ⟨#[]⟩) {n : Nd} (W : Wr x.T x.V d.kns (S i) n) (h1 : (S i).laid ≠ pgsN n (S i)) (h2 : ¬ (S i).laid < (S i).sp.length) {g : Nat} (hg : x.U[g]? = some false) (hU : ∀ k : Nat, k < g → x.U[k]? = some true) :
    Moves (S i).kd d.f x.T x.U x.V d.kns d.rf (x.T.set g (txtN n (S i))) (x.U.set g true) (x.V.set g 0) (d.kns.set g 0) d.rf (.on (frsS (S i) g)) ∧
    (∀ tm f rf', f.data.toList = frT (frsS (S i) g) → Inv wt gw { x with T := x.T.set g (txtN n (S i)), U := x.U.set g true, V := x.V.set g 0, now := x.now + 1, rf := rf', ds := x.ds.set i (d.go x.now tm f (d.kns.set g 0) d.rf) } t (upS S i (frsS (S i) g)) o) ∧
    rnk m (x.V.set g 0) (frsS (S i) g) < rnk m x.V (S i) := by
  have L := h.live
  have hst := h.step
  have hD := h.inv.ds i d h.ds
  have hl0 := L.ok.laid0
  have hll := L.ok.laidL
  have hlt : (S i).laid < pgsN n (S i) := by have := W.pl.laid; omega
  have hp2 := (pgsN_le n (S i)).2.1
  have hcr : crwB n (S i) = true := (pgsN_le n (S i)).2.2.1.1 (by omega)
  have hk2 : (S i).kd = 2 := (crowd_len (chi_of L.ok W.pl.un.1 W.pl.lv W.pl.kd W.pl.w2) hcr).2.2.2
  have g64 : g < 64 := by rw [← h.inv.ul]; exact (List.getElem?_eq_some_iff.1 hg).1
  have gin : ¬ t.inn g := fun e => by have := (h.inv.say g e).2.1; rw [hg] at this; cases this
  have g1 : 1 ≤ g := by
    rcases Nat.eq_zero_or_pos g with e | e
    · exact absurd h.inv.tok.r0 (e ▸ gin)
    · exact e
  have hlen : (S i).laid.toNat = (S i).sp.length := by omega
  have hspU : ∀ (k r : Nat), (S i).sp[k]? = some (r : Int) → r ≠ g := fun k r hk e => by
    obtain ⟨p, e1, -, -, -, h5, -⟩ := L.spr.ok k _ hk
    rw [show p = g by omega, hg] at h5; cases h5
  have hpg : (S i).pg.toNat ≠ g := fun e => gin (e ▸ L.way.inn)
  have hok : StOk (layS (S i) ((S i).sp ++ [(g : Int)]) ((S i).sv ++ [0])) := by
    have h0 := L.ok
    have h9 := h0.spl
    have h8 := h0.sp2
    refine ⟨h0.op, h0.val, by have := h0.step; unfold Fr at this ⊢; show 0 ≤ (S i).step + 1 ∧ (S i).step + 1 ≤ _; omega, h0.pg, h0.keys, h0.vals, h0.pts, h0.kl, h0.kl12, h0.bl, h0.bl64, h0.bel, h0.seen, h0.ver, ⟨by show 0 ≤ (S i).laid + 1; omega, by show (S i).laid + 1 ≤ _; omega⟩, h0.lv, h0.low, h0.ch, h0.pt, h0.swL, ?_, fun a ha => ?_, fun a ha => ?_, Or.inl hk2, ?_, ?_, ?_, ?_⟩
    · rcases h0.sw with h1 | h1
      · exact absurd h1.1 hsw
      · exact Or.inr h1
    · rcases List.mem_append.1 ha with h1 | h1
      · exact h0.sp a h1
      · rw [List.mem_singleton] at h1; omega
    · rcases List.mem_append.1 ha with h1 | h1
      · exact h0.sv a h1
      · rw [List.mem_singleton] at h1; rw [h1]; exact fr0
    · show ((S i).sp ++ [(g : Int)]).length = ((S i).sv ++ [0]).length
      rw [List.length_append, List.length_append, h9]; rfl
    · show ((S i).sp ++ [(g : Int)]).length ≤ 2
      rw [List.length_append, List.length_singleton]; omega
    · show (S i).laid + 1 ≤ (((S i).sp ++ [(g : Int)]).length : Int)
      rw [List.length_append, List.length_singleton]; omega
    · rcases h0.ent with h1 | h1
      · exact Or.inl h1
      · exact Or.inr ⟨h1.1, h1.2.1, h1.2.2.1, by show (S i).pt < (S i).step + 1; omega, h1.2.2.2.2⟩
  have A : LayAt x.T (S i) n ((S i).sp ++ [(g : Int)]) g := ⟨hlt, by rw [hlen]; simp, fun k hk => by rw [List.getElem?_append_left (by omega)], fun k r _ hr => hspU k r hr, hpg, by rw [h.inv.tl]; exact g64⟩
  have hspr : SprOk t (x.U.set g true) (x.V.set g 0) (d.kns.set g 0) (layS (S i) ((S i).sp ++ [(g : Int)]) ((S i).sv ++ [0])) := by
    have hspl := L.ok.spl
    refine ⟨?_, fun j a hj => ?_⟩
    · show ((S i).sp ++ [(g : Int)]).Nodup
      rw [List.nodup_append]
      refine ⟨L.spr.nd, by simp, fun a ha b hb e => ?_⟩
      rw [List.mem_singleton] at hb
      obtain ⟨k, hk⟩ := mem_sp ha
      rw [e, hb] at hk
      exact hspU k g hk rfl
    · replace hj : ((S i).sp ++ [(g : Int)])[j]? = some a := hj
      show ∃ p : Nat, a = (p : Int) ∧ 1 ≤ p ∧ p < 64 ∧ ¬ t.inn p ∧ (x.U.set g true)[p]? = some true ∧ ∃ v, ((S i).sv ++ [0])[j]? = some v ∧ (x.V.set g 0)[p]? = some v ∧ (d.kns.set g 0)[p]? = some v
      rcases Nat.lt_or_ge j (S i).sp.length with hjl | hjl
      · rw [List.getElem?_append_left hjl] at hj
        obtain ⟨p, rfl, q1, q2, q3, q4, v, q5, q6, q7⟩ := L.spr.ok j a hj
        have hpg2 : p ≠ g := hspU j p hj
        exact ⟨p, rfl, q1, q2, q3, by rw [List.getElem?_set_ne (Ne.symm hpg2)]; exact q4, v, by rw [List.getElem?_append_left (by omega)]; exact q5, by rw [List.getElem?_set_ne (Ne.symm hpg2)]; exact q6, by rw [List.getElem?_set_ne (Ne.symm hpg2)]; exact q7⟩
      · have hj2 : j = (S i).sp.length := by
          have := (List.getElem?_eq_some_iff.1 hj).1
          rw [List.length_append, List.length_singleton] at this
          omega
        subst hj2
        have ea : a = (g : Int) := by simp at hj; exact hj.symm
        refine ⟨g, ea, g1, g64, gin, List.getElem?_set_self (by rw [h.inv.ul]; exact g64), 0, ?_, List.getElem?_set_self (by rw [h.inv.vl]; exact g64), List.getElem?_set_self (by rw [hD.kl]; exact g64)⟩
        rw [hspl]; simp
  have C : Chg x.now t t (S i) x.T (x.T.set g (txtN n (S i))) x.U (x.U.set g true) x.V (x.V.set g 0) o := by
    have uu : ∀ p : Nat, x.U[p]? = some true → (x.U.set g true)[p]? = some true := fun p hp => by
      by_cases e : g = p
      · subst e; exact List.getElem?_set_self (by rw [h.inv.ul]; exact g64)
      · rw [List.getElem?_set_ne e]; exact hp
    refine ⟨h.inv.tok, Grows.refl t, by rw [List.length_set]; exact h.inv.tl, by rw [List.length_set]; exact h.inv.ul, by rw [List.length_set]; exact h.inv.vl, fun p hp => says_set (h.inv.say p hp) (fun e => gin (e ▸ hp)) (uu p), us_set h.inv.us (by rw [h.inv.tl]; exact g64) g64 (txt_unp W.pl) (fun p hp => ?_), fun p v hv => ?_, h.inv.lf, uu, ⟨g, fun p hp => ⟨List.getElem?_set_ne (Ne.symm hp), List.getElem?_set_ne (Ne.symm hp)⟩, Or.inr (Or.inl hg)⟩, fun p hp => Or.inl hp⟩
    · rcases set_some hp with ⟨e, -⟩ | ⟨-, e⟩
      · exact Or.inl e
      · exact Or.inr e
    have hn := h.inv.now
    rcases set_some hv with ⟨-, e⟩ | ⟨-, e⟩
    · omega
    · have := h.inv.vb p v e; omega
  have B := h.lay (m := m) hsw W A hok hspr C fun a ha => by
    rcases List.mem_append.1 ha with e | e
    · exact Or.inl e
    · rw [List.mem_singleton] at e; exact Or.inr ⟨g, e, hg⟩
  refine ⟨mv_fresh_on (h.wrAt hsw W) _ _ h1 h2 g1 g64 hg hU ⟨_, List.getElem?_eq_getElem (by rw [h.inv.tl]; exact g64)⟩ ⟨_, List.getElem?_eq_getElem (by rw [h.inv.vl]; exact g64)⟩ hok, B.1, B.2⟩
theorem Mov.wr_spare {wt : Bool} {gw : Nat} {x : Wd} {t : Tre} {S : Nat → St} {o : List Dn} {c i : Nat} {d : Dd} (h : Mov wt gw x t S o c i d) {m : Nat → Nat} (hsw : (S i).sw ≠ ⟨#[]⟩) {n : Nd} (W : Wr x.T x.V d.kns (S i) n) (h1 : (S i).laid ≠ pgsN n (S i)) (h2 : (S i).laid < (S i).sp.length) :
    ∃ (g : Nat) (ver : Int), (g : Int) ∈ (S i).sp ∧ Moves (S i).kd d.f x.T x.U x.V d.kns d.rf (x.T.set g (txtN n (S i))) x.U (x.V.set g (ver + 1)) (d.kns.set g (ver + 1)) d.rf (.on (sprS (S i))) ∧
    (∀ tm f rf', f.data.toList = frT (sprS (S i)) → Inv wt gw { x with T := x.T.set g (txtN n (S i)), V := x.V.set g (ver + 1), now := x.now + 1, rf := rf', ds := x.ds.set i (d.go x.now tm f (d.kns.set g (ver + 1)) d.rf) } t (upS S i (sprS (S i))) o) ∧
    rnk m (x.V.set g (ver + 1)) (sprS (S i)) < rnk m x.V (S i) := by
  have L := h.live
  have hst := h.step
  have hnow := h.now
  have hD := h.inv.ds i d h.ds
  have hl0 := L.ok.laid0
  have hll := L.ok.laidL
  have hlt : (S i).laid < pgsN n (S i) := by have := W.pl.laid; omega
  have hspl := L.ok.spl
  obtain ⟨j, hj⟩ : ∃ j : Nat, (S i).laid = (j : Int) ∧ (S i).laid.toNat = j := ⟨(S i).laid.toNat, by omega, rfl⟩
  have hjl : j < (S i).sp.length := by omega
  have hga : (S i).sp[j]? = some ((S i).sp[j]'hjl) := List.getElem?_eq_getElem hjl
  obtain ⟨g, eg, g1, g64, gin, gU, ver, gs, gV, gk⟩ := L.spr.ok j _ hga
  rw [eg] at hga
  have hvb := h.inv.vb g ver gV
  have hpg : (S i).pg.toNat ≠ g := fun e => gin (e ▸ L.way.inn)
  have hne : ∀ (k r : Nat), k ≠ j → (S i).sp[k]? = some (r : Int) → r ≠ g := fun k r hk hr e => by
    subst e
    obtain ⟨hk1, hk2⟩ := List.getElem?_eq_some_iff.1 hr
    exact hk ((List.getElem_inj L.spr.nd).1 (hk2.trans eg.symm))
  have hsj : (S i).sv[j]?.getD 0 = ver := by rw [gs]; rfl
  have hjv : j < (S i).sv.length := by omega
  have hspS : sprS (S i) = layS (S i) (S i).sp ((S i).sv.set j (ver + 1)) := by
    unfold sprS layS
    rw [hj.2, hsj]
  have hok : StOk (layS (S i) (S i).sp ((S i).sv.set j (ver + 1))) := by
    have h0 := L.ok
    refine ⟨h0.op, h0.val, by have := h0.step; unfold Fr at this ⊢; show 0 ≤ (S i).step + 1 ∧ (S i).step + 1 ≤ _; omega, h0.pg, h0.keys, h0.vals, h0.pts, h0.kl, h0.kl12, h0.bl, h0.bl64, h0.bel, h0.seen, h0.ver, ⟨by show 0 ≤ (S i).laid + 1; omega, by show (S i).laid + 1 ≤ _; omega⟩, h0.lv, h0.low, h0.ch, h0.pt, h0.swL, ?_, h0.sp, fun a ha => ?_, h0.spk, ?_, h0.sp2, ?_, ?_⟩
    · rcases h0.sw with h1 | h1
      · exact absurd h1.1 hsw
      · exact Or.inr h1
    · rcases List.mem_or_eq_of_mem_set ha with e | e
      · exact h0.sv a e
      · rw [e]; exact ⟨by omega, by omega⟩
    · show (S i).sp.length = ((S i).sv.set j (ver + 1)).length
      rw [List.length_set]; exact hspl
    · show (S i).laid + 1 ≤ ((S i).sp.length : Int)
      omega
    · rcases h0.ent with h1 | h1
      · exact Or.inl h1
      · exact Or.inr ⟨h1.1, h1.2.1, h1.2.2.1, by show (S i).pt < (S i).step + 1; omega, h1.2.2.2.2⟩
  have A : LayAt x.T (S i) n (S i).sp g := ⟨hlt, by rw [hj.2]; exact hga, fun _ _ => rfl, fun k r hk hr => hne k r (by omega) hr, hpg, by rw [h.inv.tl]; exact g64⟩
  have hspr : SprOk t x.U (x.V.set g (ver + 1)) (d.kns.set g (ver + 1)) (layS (S i) (S i).sp ((S i).sv.set j (ver + 1))) := by
    refine ⟨L.spr.nd, fun k a hk => ?_⟩
    replace hk : (S i).sp[k]? = some a := hk
    show ∃ p : Nat, a = (p : Int) ∧ 1 ≤ p ∧ p < 64 ∧ ¬ t.inn p ∧ x.U[p]? = some true ∧ ∃ v, ((S i).sv.set j (ver + 1))[k]? = some v ∧ (x.V.set g (ver + 1))[p]? = some v ∧ (d.kns.set g (ver + 1))[p]? = some v
    obtain ⟨p, rfl, q1, q2, q3, q4, v, q5, q6, q7⟩ := L.spr.ok k a hk
    by_cases e : k = j
    · subst e
      obtain rfl : p = g := by rw [hk] at hga; have := Option.some.inj hga; omega
      exact ⟨p, rfl, q1, q2, q3, q4, ver + 1, List.getElem?_set_self hjv, List.getElem?_set_self (by rw [h.inv.vl]; exact g64), List.getElem?_set_self (by rw [hD.kl]; exact g64)⟩
    · have hpg2 := hne k p e hk
      exact ⟨p, rfl, q1, q2, q3, q4, v, by rw [List.getElem?_set_ne (Ne.symm e)]; exact q5, by rw [List.getElem?_set_ne (Ne.symm hpg2)]; exact q6, by rw [List.getElem?_set_ne (Ne.symm hpg2)]; exact q7⟩
  have hmem : (g : Int) ∈ (S i).sp := List.mem_of_getElem? hga
  have C : Chg x.now t t (S i) x.T (x.T.set g (txtN n (S i))) x.U x.U x.V (x.V.set g (ver + 1)) o := by
    refine ⟨h.inv.tok, Grows.refl t, by rw [List.length_set]; exact h.inv.tl, h.inv.ul, by rw [List.length_set]; exact h.inv.vl, fun p hp => says_set (h.inv.say p hp) (fun e => gin (e ▸ hp)) id, us_set h.inv.us (by rw [h.inv.tl]; exact g64) g64 (txt_unp W.pl) (fun _ hp => Or.inr hp), fun p v hv => ?_, h.inv.lf, fun _ hp => hp, ⟨g, fun p hp => ⟨List.getElem?_set_ne (Ne.symm hp), List.getElem?_set_ne (Ne.symm hp)⟩, Or.inl hmem⟩, fun p hp => Or.inl hp⟩
    have hn := h.inv.now
    rcases set_some hv with ⟨-, e⟩ | ⟨-, e⟩
    · omega
    · have := h.inv.vb p v e; omega
  have B := h.lay (m := m) hsw W A hok hspr C fun a ha => Or.inl ha
  rw [← hspS] at B hok
  refine ⟨g, ver, hmem, mv_spare (h.wrAt hsw W) _ _ hlt (by rw [hj.2]; exact hga) (by rw [hj.2]; exact gs) gU gV gk ⟨_, List.getElem?_eq_getElem (by rw [h.inv.tl]; exact g64)⟩ (fun a ha => ?_) hok, B.1, B.2⟩
  obtain ⟨k, hk⟩ := List.mem_iff_getElem?.1 ha
  have hkl : k < (S i).sp.length := by have := (List.getElem?_eq_some_iff.1 hk).1; omega
  obtain ⟨p, -, -, -, -, -, v, q5, q6, -⟩ := L.spr.ok k _ (List.getElem?_eq_getElem hkl)
  rw [hk] at q5
  have := Option.some.inj q5
  have := h.inv.vb p v q6
  omega
structure SwP (wt : Bool) (gw : Nat) (x : Wd) (t : Tre) (S : Nat → St) (o : List Dn) (c i : Nat) (d : Dd) (p : Nat) : Prop where
  mv : Mov wt gw x t S o c i d
  sw : (S i).sw ≠ ⟨#[]⟩
  W : Wr x.T x.V d.kns (S i) (t.nd p)
  pg : (S i).pg = (p : Int)
  p64 : p < 64
  inn : t.inn p
  U : x.U[p]? = some true
  T : x.T[p]? = some (S i).sw
  V : x.V[p]? = some (S i).ver
  vb : 0 ≤ (S i).ver ∧ (S i).ver ≤ x.now
  la : (S i).laid = pgsN (t.nd p) (S i)
theorem Mov.swP {wt : Bool} {gw : Nat} {x : Wd} {t : Tre} {S : Nat → St} {o : List Dn} {c i : Nat} {d : Dd} (h : Mov wt gw x t S o c i d) (hsw : (S i).sw ≠ ⟨#[]⟩) {n : Nd} (W : Wr x.T x.V d.kns (S i) n) (h1 : (S i).laid = pgsN n (S i)) (hV : x.V[(S i).pg.toNat]? = some (S i).ver) : ∃ p, n = t.nd p ∧ SwP wt gw x t S o c i d p := by
  obtain ⟨p, tx, ver, p1, p2, p3, p4, p5, p6, p7, p8, p9, p10⟩ := h.page
  obtain ⟨cu, c1, c2, c3, c4⟩ := W.cur
  rw [p3] at hV c1 c4
  rw [hV] at c1 p7
  have hcu : (S i).ver = cu := Option.some.inj c1
  have hver : (S i).ver = ver := Option.some.inj p7
  have hT := c4 hcu.symm
  rw [p6] at hT
  have htx : tx = (S i).sw := Option.some.inj hT
  subst htx
  have hn := W.pl.un.uniq p8
  subst hn
  exact ⟨p, rfl, h, hsw, W, p1, p2, p4, p5, p6, hV, ⟨by omega, by omega⟩, h1⟩
theorem SwP.chi {wt : Bool} {gw : Nat} {x : Wd} {t : Tre} {S : Nat → St} {o : List Dn} {c i : Nat} {d : Dd} {p : Nat} (h : SwP wt gw x t S o c i d p) : ChI (t.nd p) (S i).kd (wantV (S i)) (entV (S i)) := chi_of h.mv.live.ok h.W.pl.un.1 h.W.pl.lv h.W.pl.kd h.W.pl.w2
theorem SwP.pn {wt : Bool} {gw : Nat} {x : Wd} {t : Tre} {S : Nat → St} {o : List Dn} {c i : Nat} {d : Dd} {p : Nat} (h : SwP wt gw x t S o c i d p) : (S i).pg.toNat = p := by have := h.pg; omega
theorem SwP.cgAt {wt : Bool} {gw : Nat} {x : Wd} {t : Tre} {S : Nat → St} {o : List Dn} {c i : Nat} {d : Dd} {p : Nat} (h : SwP wt gw x t S o c i d p) : CgAt t p (S i).kd (wantV (S i)) (entV (S i)) := by
  have L := h.mv.live
  have hw := L.way
  rw [h.pn] at hw
  refine ⟨h.inn, h.chi, hw.lo, fun h0 => ?_⟩
  rw [h.W.pl.lv] at h0 ⊢
  have e1 : wantV (S i) = (S i).low := by unfold wantV; rw [if_pos h0]
  have e2 : entV (S i) = (S i).ch := by unfold entV; rw [if_pos h0]
  rw [e1, e2]
  exact (L.ent h0).ch
structure Swd (x : Wd) (t t' : Tre) (s : St) (p : Nat) (N : Nat → Nd → Prop) (o : List Dn) : Prop where
  tu : Turn t t' p (nxtN (t.nd p) s) N (mapO o) (aft (t.nd p).lv s.kd (wantV s) (entV s) (mapO o))
  nw : ∀ q n', N q n' → q ≠ p ∧ (q : Int) ∈ s.sp ∧ Says x.T x.U q n'
  en : pgsN (t.nd p) s = 1 → p ≠ 0 ∧ s.lv < 9 ∧ ∃ r : Nat, s.sp[0]? = some (r : Int) ∧ t'.kid (s.lv + 1) (lowV (t.nd p) s, (r : Int)) ∧ ∀ q n', N q n' → q = r
  sh : (crwB (t.nd p) s = false ∧ t' = t.put p (chgN (t.nd p) s)) ∨
    (Halves (t.nd p) s.kd (wantV s) (entV s) (lowV (t.nd p) s) ∧ p ≠ 0 ∧ ∃ r : Nat, s.sp[0]? = some (r : Int) ∧ ¬ t.inn r ∧ t' = t.split p r (lftN (chgN (t.nd p) s) (lowV (t.nd p) s) r) (rgtN (chgN (t.nd p) s) (lowV (t.nd p) s)) (lowV (t.nd p) s)) ∨
    (Halves (t.nd p) s.kd (wantV s) (entV s) (lowV (t.nd p) s) ∧ p = 0 ∧ pgsN (t.nd p) s ≠ 1 ∧ ∃ l r : Nat, ¬ t.inn l ∧ ¬ t.inn r ∧ 1 ≤ l ∧ 1 ≤ r ∧ l ≠ r ∧ t' = t.grow l r s.kd (wantV s) (entV s) (lowV (t.nd p) s))
theorem SwP.says {wt : Bool} {gw : Nat} {x : Wd} {t : Tre} {S : Nat → St} {o : List Dn} {c i : Nat} {d : Dd} {p : Nat} (h : SwP wt gw x t S o c i d p) {j q : Nat} {tx : ByteArray} {n : Nd} (hj : (S i).sp[j]? = some (q : Int)) (hT : x.T[q]? = some tx) (hu : Unp tx.data.toList n) : q ≠ p ∧ (q : Int) ∈ (S i).sp ∧ Says x.T x.U q n ∧ ¬ t.inn q ∧ 1 ≤ q ∧ q < 64 := by
  obtain ⟨q', e, h1, h2, h3, h4, -⟩ := h.mv.live.spr.ok j _ hj
  obtain rfl : q = q' := by omega
  exact ⟨fun e => h3 (e ▸ h.inn), List.mem_of_getElem? hj, ⟨h2, h4, tx, hT, hu⟩, h3, h1, h2⟩
theorem SwP.turn {wt : Bool} {gw : Nat} {x : Wd} {t : Tre} {S : Nat → St} {o : List Dn} {c i : Nat} {d : Dd} {p : Nat} (h : SwP wt gw x t S o c i d p) : ∃ t' N, Swd x t t' (S i) p N o := by
  have L := h.mv.live
  have hC := h.cgAt
  have hT := h.mv.inv.tok
  have hp := pgsN_le (t.nd p) (S i)
  have hla := h.la
  have hl9 := h.W.l9
  have hlvb := L.ok.lvb
  cases hc : crwB (t.nd p) (S i)
  · have A := turn_put hC hT hc (mapO o)
    have hn : nxtN (t.nd p) (S i) = cg (t.nd p) (S i).kd (wantV (S i)) (entV (S i)) := nxt_chg hc
    rw [← hn] at A
    refine ⟨_, _, ⟨A, fun q n' e => e.elim, fun e => ?_, Or.inl ⟨hc, congrArg (t.put p) (nxt_chg hc)⟩⟩⟩
    have : crwB (t.nd p) (S i) = true := hp.2.2.1.1 (by omega)
    rw [hc] at this; cases this
  · have H := halves_of h.chi hc
    have hv := hp.2.2.2 hc
    have h9 : (S i).lv < 9 := by have : (S i).lv ≠ 9 := fun e => hl9 ⟨hc, e⟩; omega
    by_cases hp0 : p = 0
    · subst hp0
      rw [if_pos (by rw [h.pg]; rfl)] at hv
      obtain ⟨r, tr, r1, r2, r3⟩ := h.W.rgt (by omega)
      obtain ⟨l, r', tl, l1, l2, l3, l4⟩ := h.W.lft (by omega)
      obtain rfl : r = r' := by rw [r1] at l2; have := Option.some.inj l2; omega
      obtain ⟨a1, a2, a3, a4, a5, a6⟩ := h.says r1 r2 r3
      obtain ⟨b1, b2, b3, b4, b5, b6⟩ := h.says l1 l3 l4
      have hlr : l ≠ r := fun e => by
        subst e
        obtain ⟨u1, u2⟩ := List.getElem?_eq_some_iff.1 r1
        obtain ⟨v1, v2⟩ := List.getElem?_eq_some_iff.1 l1
        have := (List.getElem_inj L.spr.nd).1 (u2.trans v2.symm)
        omega
      have A := turn_grow hC hT H a4 a5 a6 b4 b5 b6 hlr (by rw [h.W.pl.lv]; exact h9) (mapO o)
      have hn : nxtN (t.nd 0) (S i) = topN (cg (t.nd 0) (S i).kd (wantV (S i)) (entV (S i))) (lowV (t.nd 0) (S i)) l r := by
        rw [nxt_top hc (by omega), l1, r1]; rfl
      refine ⟨_, _, ⟨hn ▸ A, fun q n' e => ?_, fun e => by omega, Or.inr (Or.inr ⟨H, rfl, by omega, l, r, b4, a4, b5, a5, hlr, rfl⟩)⟩⟩
      rcases e with ⟨rfl, rfl⟩ | ⟨rfl, rfl⟩
      · exact ⟨a1, a2, a3⟩
      · exact ⟨b1, b2, b3⟩
    · rw [if_neg (by have := h.pg; omega)] at hv
      obtain ⟨r, tr, r1, r2, r3⟩ := h.W.rgt (by omega)
      obtain ⟨a1, a2, a3, a4, a5, a6⟩ := h.says r1 r2 r3
      have A := turn_split hC hT H hp0 a4 a5 a6 (mapO o)
      have hn : nxtN (t.nd p) (S i) = lftN (cg (t.nd p) (S i).kd (wantV (S i)) (entV (S i))) (lowV (t.nd p) (S i)) r := by
        rw [nxt_lft hc (by omega), r1]; rfl
      rw [← hn] at A
      refine ⟨_, _, ⟨A, fun q n' e => ?_, fun _ => ⟨hp0, h9, r, r1, ?_, fun q n' e => e.1⟩, Or.inr (Or.inl ⟨H, hp0, r, r1, a4, by rw [hn]; rfl⟩)⟩⟩
      · obtain ⟨rfl, rfl⟩ := e
        exact ⟨a1, a2, a3⟩
      · refine ⟨r, rfl, Or.inr rfl, if_pos rfl, ?_⟩
        show (if r = r then _ else _ : Nd).lv + 1 = _
        rw [if_pos rfl]
        show (t.nd p).lv + 1 = _
        rw [h.W.pl.lv]
theorem upd_drop (key v v' : Int) (m : Int → Option Int) : upd 3 key v m = upd 3 key v' m := by
  funext q; unfold upd; split <;> rfl
theorem SwP.map0 {wt : Bool} {gw : Nat} {x : Wd} {t : Tre} {S : Nat → St} {o : List Dn} {c i : Nat} {d : Dd} {p : Nat} (h : SwP wt gw x t S o c i d p) (hl : (S i).lv = 0) : mapO (o ++ [⟨x.now, d.k, d.key, d.v⟩]) = aft (t.nd p).lv (S i).kd (wantV (S i)) (entV (S i)) (mapO o) := by
  have L := h.mv.live
  rw [mapO_snoc]
  unfold aft
  rw [if_pos (by rw [h.W.pl.lv]; exact hl), L.ok.wkey hl (by have := h.W.pl.kd; omega), L.key]
  have e2 : entV (S i) = valS d.k d.v := by unfold entV; rw [if_neg (by omega)]; exact L.val
  rw [e2, L.kd]
  have hk := h.W.pl.kd
  rw [L.kd] at hk
  rcases hk with hk | hk
  · unfold valS; rw [if_neg (by omega)]
  · rw [hk]; exact upd_drop _ _ _ _
theorem SwP.mapN {wt : Bool} {gw : Nat} {x : Wd} {t : Tre} {S : Nat → St} {o : List Dn} {c i : Nat} {d : Dd} {p : Nat} (h : SwP wt gw x t S o c i d p) (hl : (S i).lv ≠ 0) : mapO o = aft (t.nd p).lv (S i).kd (wantV (S i)) (entV (S i)) (mapO o) := by
  unfold aft
  rw [if_neg (by rw [h.W.pl.lv]; exact hl)]
theorem SwP.chg {wt : Bool} {gw : Nat} {x : Wd} {t t' : Tre} {S : Nat → St} {o o' : List Dn} {c i : Nat} {d : Dd} {p : Nat} {N : Nat → Nd → Prop} (h : SwP wt gw x t S o c i d p) (A : Swd x t t' (S i) p N o) (ho : mapO o' = aft (t.nd p).lv (S i).kd (wantV (S i)) (entV (S i)) (mapO o)) :
    Chg x.now t t' (S i) x.T (x.T.set p (txtN (t.nd p) (S i))) x.U x.U x.V (x.V.set p ((S i).ver + 1)) o' := by
  have hu := txt_unp h.W.pl
  refine ⟨A.tu.ok, A.tu.gr, by rw [List.length_set]; exact h.mv.inv.tl, h.mv.inv.ul, by rw [List.length_set]; exact h.mv.inv.vl, fun q hq => ?_, us_set h.mv.inv.us (by rw [h.mv.inv.tl]; exact h.p64) h.p64 hu (fun _ hq => Or.inr hq), fun q v hv => ?_, by rw [ho]; exact A.tu.lf h.mv.inv.lf, fun _ hq => hq, ⟨p, fun q hq => ⟨List.getElem?_set_ne (Ne.symm hq), List.getElem?_set_ne (Ne.symm hq)⟩, Or.inr (Or.inr (Or.inl ⟨h.inn, _, h.V, List.getElem?_set_self (by rw [h.mv.inv.vl]; exact h.p64)⟩))⟩, fun q hq => ?_⟩
  · by_cases e : q = p
    · subst e
      rw [A.tu.at_]
      exact ⟨h.p64, h.U, _, List.getElem?_set_self (by rw [h.mv.inv.tl]; exact h.p64), hu⟩
    · rcases A.tu.new q hq with h1 | h1
      · rw [A.tu.old q h1 e]
        exact says_set (h.mv.inv.say q h1) e id
      · exact says_set (A.nw q _ h1).2.2 e id
  · have hn := h.vb
    rcases set_some hv with ⟨-, e⟩ | ⟨-, e⟩
    · omega
    · have := h.mv.inv.vb q v e; omega
  · rcases A.tu.new q hq with h1 | h1
    · exact Or.inl h1
    · exact Or.inr (A.nw q _ h1).2.1
theorem SwP.kn {wt : Bool} {gw : Nat} {x : Wd} {t : Tre} {S : Nat → St} {o : List Dn} {c i : Nat} {d : Dd} {p : Nat} (h : SwP wt gw x t S o c i d p) : d.kns[p]? = some (S i).ver := by have := h.W.kn; rw [h.pn] at this; exact this
theorem SwP.end0 {wt : Bool} {gw : Nat} {x : Wd} {t t' : Tre} {S : Nat → St} {o : List Dn} {c i : Nat} {d : Dd} {p : Nat} {N : Nat → Nd → Prop} (h : SwP wt gw x t S o c i d p) (A : Swd x t t' (S i) p N o) (hp : pgsN (t.nd p) (S i) ≠ 1) (hl : (S i).lv = 0) :
    Moves (S i).kd d.f x.T x.U x.V d.kns d.rf (x.T.set p (txtN (t.nd p) (S i))) x.U (x.V.set p ((S i).ver + 1)) (d.kns.set p ((S i).ver + 1)) d.rf (.fin 0 (lmap (t.nd p) d.key).isSome ((lmap (t.nd p) d.key).getD 0) d.ts.length [] [] []) ∧
    (∀ tm kv vv cv rf', Inv wt gw { x with T := x.T.set p (txtN (t.nd p) (S i)), V := x.V.set p ((S i).ver + 1), bs := x.bs.set c (-1), now := x.now + 1, rf := rf', ds := x.ds.set i (d.fin x.now (d.kns.set p ((S i).ver + 1)) d.rf 0 (lmap (t.nd p) d.key).isSome ((lmap (t.nd p) d.key).getD 0) d.ts.length [] [] [] tm kv vv cv) } t' (upS S i (S i)) (o ++ [⟨x.now, d.k, d.key, d.v⟩])) ∧ lmap (t.nd p) d.key = mapO o d.key := by
  have L := h.mv.live
  have hD := h.mv.inv.ds i d h.mv.ds
  have hnow := h.mv.now
  have hk := h.W.pl.kd
  have hkd : d.k = 2 ∨ d.k = 3 := by rw [← L.kd]; exact hk
  have hwk := L.ok.wkey hl (by omega)
  have hf := fnd_lmap h.W.pl.un.1 (S i).key
  have hw := L.way
  rw [h.pn] at hw
  have hmk : lmap (t.nd p) d.key = mapO o d.key := h.mv.inv.lf p h.inn (by rw [h.W.pl.lv]; exact hl) d.key (by rw [← L.key, ← hwk]; exact hw.lo) (by rw [← L.key, ← hwk]; exact h.W.pl.w2)
  have hT : ∀ tm kv vv cv, Took (S i) (S i) d (d.fin x.now (d.kns.set p ((S i).ver + 1)) d.rf 0 (lmap (t.nd p) d.key).isSome ((lmap (t.nd p) d.key).getD 0) d.ts.length [] [] [] tm kv vv cv) x.now o (o ++ [⟨x.now, d.k, d.key, d.v⟩]) := fun tm kv vv cv => by
    refine Or.inr ⟨effD_no h.mv.en hl, _, ?_, rfl, rfl, hkd⟩
    refine (effD_end rfl).trans ?_
    unfold tkD
    rw [if_pos ⟨hkd, rfl⟩]
    show some (⟨(d.ts ++ [x.now])[((d.ts.length : Nat) : Int).toNat]?.getD 0, d.k, d.key, d.v⟩ : Dn) = _
    rw [Int.toNat_natCast, at_now]
  refine ⟨?_, fun tm kv vv cv rf' => ?_, hmk⟩
  · have := mv_swap_fin (h.mv.wrAt h.sw h.W) d.kns d.rf h.la h.pg h.U h.V ⟨_, h.T⟩ h.kn ⟨h.vb.1, by have := h.vb; omega⟩ hp
    rw [if_pos hl, hf.1, hf.2, L.step, L.key] at this
    exact this
  · refine h.mv.inv.step h.mv.cl h.mv.bs h.mv.ds h.mv.en (h.chg A (h.map0 hl)) ⟨rfl, rfl, rfl⟩ rfl (by show (d.kns.set p _).length = 64; rw [List.length_set]; exact hD.kl) (hT tm kv vv cv) (fun a ha => Or.inl ha) (Or.inr ⟨rfl, rfl, ?_⟩)
    refine ⟨⟨d.ts.length, rfl, by show d.ts.length < (d.ts ++ [x.now]).length; simp⟩, Or.inr ⟨by show d.k ≠ 4; omega, rfl, rfl, rfl, Or.inr ⟨rfl, ?_, ?_⟩⟩⟩
    · rw [at_end _ _ _ _ _ _ _ _ _ _ _ _ _ _ _ rfl, (hT tm kv vv cv).aheadN h.mv.inv.ot]
      show (lmap (t.nd p) d.key).isSome = (mapO o d.key).isSome
      rw [hmk]
    · rw [at_end _ _ _ _ _ _ _ _ _ _ _ _ _ _ _ rfl, (hT tm kv vv cv).aheadN h.mv.inv.ot]
      show (lmap (t.nd p) d.key).getD 0 = (mapO o d.key).getD 0
      rw [hmk]
theorem SwP.endN {wt : Bool} {gw : Nat} {x : Wd} {t t' : Tre} {S : Nat → St} {o : List Dn} {c i : Nat} {d : Dd} {p : Nat} {N : Nat → Nd → Prop} (h : SwP wt gw x t S o c i d p) (A : Swd x t t' (S i) p N o) (hp : pgsN (t.nd p) (S i) ≠ 1) (hl : 0 < (S i).lv) :
    Moves (S i).kd d.f x.T x.U x.V d.kns d.rf (x.T.set p (txtN (t.nd p) (S i))) x.U (x.V.set p ((S i).ver + 1)) (d.kns.set p ((S i).ver + 1)) d.rf (.fin 0 false 0 (S i).pt [] [] []) ∧
    ∀ tm kv vv cv rf', Inv wt gw { x with T := x.T.set p (txtN (t.nd p) (S i)), V := x.V.set p ((S i).ver + 1), bs := x.bs.set c (-1), now := x.now + 1, rf := rf', ds := x.ds.set i (d.fin x.now (d.kns.set p ((S i).ver + 1)) d.rf 0 false 0 (S i).pt [] [] [] tm kv vv cv) } t' (upS S i (S i)) o := by
  have hD := h.mv.inv.ds i d h.mv.ds
  have hnow := h.mv.now
  refine ⟨?_, fun tm kv vv cv rf' => h.mv.fin_ent hl (h.chg A (h.mapN (by omega))) (by rw [List.length_set]; exact hD.kl) tm kv vv cv rf'⟩
  have := mv_swap_fin (h.mv.wrAt h.sw h.W) d.kns d.rf h.la h.pg h.U h.V ⟨_, h.T⟩ h.kn ⟨h.vb.1, by have := h.vb; omega⟩ hp
  rw [if_neg (by omega)] at this
  exact this
theorem SwP.enter {wt : Bool} {gw : Nat} {x : Wd} {t t' : Tre} {S : Nat → St} {o : List Dn} {c i : Nat} {d : Dd} {p : Nat} {N : Nat → Nd → Prop} (h : SwP wt gw x t S o c i d p) (A : Swd x t t' (S i) p N o) {m m' : Nat → Nat} (hm' : RkOk t' m') (hp : pgsN (t.nd p) (S i) = 1) :
    Moves (S i).kd d.f x.T x.U x.V d.kns d.rf (x.T.set p (txtN (t.nd p) (S i))) x.U (x.V.set p ((S i).ver + 1)) (d.kns.set p ((S i).ver + 1)) d.rf (.on (enS (t.nd p) (S i))) ∧
    (∀ tm f rf', f.data.toList = frT (enS (t.nd p) (S i)) → Inv wt gw { x with T := x.T.set p (txtN (t.nd p) (S i)), V := x.V.set p ((S i).ver + 1), now := x.now + 1, rf := rf', ds := x.ds.set i (d.go x.now tm f (d.kns.set p ((S i).ver + 1)) d.rf) } t' (upS S i (enS (t.nd p) (S i))) (if (S i).lv = 0 then o ++ [⟨x.now, d.k, d.key, d.v⟩] else o)) ∧
    rnk m' (x.V.set p ((S i).ver + 1)) (enS (t.nd p) (S i)) < rnk m x.V (S i) := by
  have L := h.mv.live
  have hst := h.mv.step
  have hD := h.mv.inv.ds i d h.mv.ds
  have hnow := h.mv.now
  have hT := h.mv.inv.tok
  obtain ⟨p0, h9, r, r1, hkid, hnr⟩ := A.en hp
  have hcr : crwB (t.nd p) (S i) = true := (pgsN_le (t.nd p) (S i)).2.2.1.1 (by omega)
  have H := halves_of h.chi hcr
  obtain ⟨hm1, -, hm2, hm3⟩ := H.mem
  have hhi := right_hi _ h.W.pl.un.1
  have hcl := crowd_len h.chi hcr
  have hk2 : (S i).kd = 2 := hcl.2.2.2
  have hkd : d.k = 2 := by rw [← L.kd]; exact hk2
  have hsp0 : 0 < (S i).sp.length := (List.getElem?_eq_some_iff.1 r1).1
  have hlvb := L.ok.lvb
  have hr := L.ok.spGet hsp0
  have hspl := L.ok.spl
  have e_ch : (S i).sp[0]?.getD 0 = (r : Int) := by rw [r1]; rfl
  rw [e_ch] at hr
  have hpt : 0 ≤ (if (S i).lv = 0 then (S i).step else (S i).pt) ∧ (if (S i).lv = 0 then (S i).step else (S i).pt) < (S i).step + 1 := by
    by_cases hl : (S i).lv = 0
    · rw [if_pos hl]; omega
    · rw [if_neg hl]
      have := (L.ent (by omega)).pt
      have := L.step
      omega
  have hok : StOk (enS (t.nd p) (S i)) := by
    have h0 := L.ok
    refine ⟨h0.op, h0.val, by have := h0.step; unfold Fr at this ⊢; show 0 ≤ (S i).step + 1 ∧ (S i).step + 1 ≤ _; omega, ⟨Int.le_refl _, by show (0 : Int) ≤ 63; decide⟩, h0.keys, h0.vals, h0.pts, h0.kl, h0.kl12, h0.bl, h0.bl64, h0.bel, h0.seen, fr0, fr0, ⟨by show 0 ≤ (S i).lv + 1; omega, by show (S i).lv + 1 ≤ _; omega⟩, ⟨by show 0 ≤ lowV (t.nd p) (S i); omega, by show lowV (t.nd p) (S i) ≤ _; omega⟩, ⟨by show 0 ≤ (S i).sp[0]?.getD 0; rw [e_ch]; omega, by show (S i).sp[0]?.getD 0 ≤ _; rw [e_ch]; omega⟩, ⟨hpt.1, by have := hpt.2; show (if (S i).lv = 0 then (S i).step else (S i).pt) ≤ _; omega⟩, (by show (⟨#[]⟩ : ByteArray).size ≤ 47; decide), Or.inl ⟨rfl, rfl, rfl⟩, fun a ha => h0.sp a (List.mem_of_mem_drop ha), fun a ha => h0.sv a (List.mem_of_mem_drop ha), Or.inl hk2, ?_, ?_, ?_, Or.inr ⟨by show 1 ≤ (S i).lv + 1; omega, by show (S i).lv + 1 ≤ 9; omega, hk2, hpt.2, hm2, by show lowV (t.nd p) (S i) ≤ 9999; omega, by show 1 ≤ (S i).sp[0]?.getD 0; rw [e_ch]; exact hr.1, by show (S i).sp[0]?.getD 0 ≤ 63; rw [e_ch]; exact hr.2⟩⟩
    · show ((S i).sp.drop 1).length = ((S i).sv.drop 1).length
      rw [List.length_drop, List.length_drop, hspl]
    · show ((S i).sp.drop 1).length ≤ 2
      rw [List.length_drop]; have := h0.sp2; omega
    · show (0 : Int) ≤ (((S i).sp.drop 1).length : Int); omega
  have hwk : (S i).lv = 0 → wantV (S i) = d.key := fun hl => by rw [L.ok.wkey hl (by omega), L.key]
  have hnone : (S i).lv = 0 → mapO o d.key = none := fun hl => by
    have hw := L.way
    rw [h.pn] at hw
    rw [← h.mv.inv.lf p h.inn (by rw [h.W.pl.lv]; exact hl) d.key (by rw [← hwk hl]; exact hw.lo) (by rw [← hwk hl]; exact h.W.pl.w2)]
    exact look_none fun y hy e => hcl.2.2.1 (by rw [hwk hl, ← e]; exact (ent_key hy).1)
  have hmap : mapO (if (S i).lv = 0 then o ++ [⟨x.now, d.k, d.key, d.v⟩] else o) = aft (t.nd p).lv (S i).kd (wantV (S i)) (entV (S i)) (mapO o) := by
    by_cases hl : (S i).lv = 0
    · rw [if_pos hl]; exact h.map0 hl
    · rw [if_neg hl]; exact h.mapN hl
  refine ⟨mv_swap_ent (h.mv.wrAt h.sw h.W) d.kns d.rf h.la h.pg h.U h.V ⟨_, h.T⟩ h.kn ⟨h.vb.1, by have := h.vb; omega⟩ hp hok, fun tm f rf' hf => ?_, ?_⟩
  · have hTk : Took (S i) (enS (t.nd p) (S i)) d (d.go x.now tm f (d.kns.set p ((S i).ver + 1)) d.rf) x.now o (if (S i).lv = 0 then o ++ [⟨x.now, d.k, d.key, d.v⟩] else o) := by
      have h1 : effD (enS (t.nd p) (S i)) (d.go x.now tm f (d.kns.set p ((S i).ver + 1)) d.rf) = some ⟨(d.ts ++ [x.now])[(if (S i).lv = 0 then (S i).step else (S i).pt).toNat]?.getD 0, d.k, d.key, d.v⟩ := effD_lv h.mv.en (by show 0 < (S i).lv + 1; omega)
      by_cases hl : (S i).lv = 0
      · refine Or.inr ⟨effD_no h.mv.en hl, _, h1, ?_, ?_, Or.inl hkd⟩
        · rw [if_pos hl, if_pos hl, L.step, Int.toNat_natCast, at_now]
        · show (d.ts ++ [x.now])[(if (S i).lv = 0 then (S i).step else (S i).pt).toNat]?.getD 0 = x.now
          rw [if_pos hl, L.step, Int.toNat_natCast, at_now]
      · refine Or.inl ⟨?_, if_neg hl⟩
        rw [h1, effD_lv h.mv.en (by omega), if_neg hl, ts_more (L.ent (by omega)).pt]
    have ha : ∀ τ ∈ d.ts, ahead (if (S i).lv = 0 then o ++ [⟨x.now, d.k, d.key, d.v⟩] else o) τ = ahead o τ := fun τ hτ => hTk.ahead (hD.lt τ hτ).2
    refine h.mv.inv.step h.mv.cl h.mv.bs h.mv.ds h.mv.en (h.chg A hmap) ⟨rfl, rfl, rfl⟩ rfl (by show (d.kns.set p _).length = 64; rw [List.length_set]; exact hD.kl) hTk (fun a ha => Or.inl (List.mem_of_mem_drop ha)) (Or.inl ⟨h.mv.en, rfl, ?_⟩)
    refine ⟨L.live, hok, hf, L.kd, L.key, L.val, ?_, ⟨?_, fun j a hj => ?_⟩, fun _ => ⟨?_, ?_, ?_⟩, ⟨?_, ?_, ?_⟩, fun e => absurd rfl e, fun hk4 => ?_⟩
    · show (S i).step + 1 = ((d.ts ++ [x.now]).length : Int)
      rw [List.length_append, List.length_singleton, L.step]; rfl
    · show ((S i).sp.drop 1).Nodup
      exact (List.drop_sublist 1 _).nodup L.spr.nd
    · replace hj : ((S i).sp.drop 1)[j]? = some a := hj
      show ∃ q : Nat, a = (q : Int) ∧ 1 ≤ q ∧ q < 64 ∧ ¬ t'.inn q ∧ x.U[q]? = some true ∧ ∃ v, ((S i).sv.drop 1)[j]? = some v ∧ (x.V.set p ((S i).ver + 1))[q]? = some v ∧ (d.kns.set p ((S i).ver + 1))[q]? = some v
      rw [List.getElem?_drop] at hj ⊢
      obtain ⟨q, rfl, q1, q2, q3, q4, v, q5, q6, q7⟩ := L.spr.ok (1 + j) a hj
      have hqp : p ≠ q := fun e => q3 (e ▸ h.inn)
      refine ⟨q, rfl, q1, q2, fun e => ?_, q4, v, q5, by rw [List.getElem?_set_ne hqp]; exact q6, by rw [List.getElem?_set_ne hqp]; exact q7⟩
      rcases A.tu.new q e with h1 | h1
      · exact q3 h1
      · have := hnr q _ h1
        subst this
        obtain ⟨u1, u2⟩ := List.getElem?_eq_some_iff.1 r1
        obtain ⟨v1, v2⟩ := List.getElem?_eq_some_iff.1 hj
        have := (List.getElem_inj L.spr.nd).1 (u2.trans v2.symm)
        omega
    · show t'.kid ((S i).lv + 1) (lowV (t.nd p) (S i), (S i).sp[0]?.getD 0)
      rw [e_ch]; exact hkid
    · show 0 ≤ (if (S i).lv = 0 then (S i).step else (S i).pt) ∧ (if (S i).lv = 0 then (S i).step else (S i).pt) < ((d.ts ++ [x.now]).length : Int)
      rw [List.length_append, List.length_singleton]
      have := L.step
      omega
    · show mapO (ahead _ ((d.ts ++ [x.now])[(if (S i).lv = 0 then (S i).step else (S i).pt).toNat]?.getD 0)) d.key = none
      by_cases hl : (S i).lv = 0
      · rw [if_pos hl (t := (S i).step), L.step, Int.toNat_natCast, at_now, hTk.aheadN h.mv.inv.ot]
        exact hnone hl
      · have E := L.ent (by omega)
        rw [if_neg hl (t := (S i).step), ts_more E.pt, ha _ (ts_mem E.pt)]
        exact E.no
    · exact A.tu.gr.inn 0 hT.r0
    · show (S i).lv + 1 ≤ (t'.nd 0).lv
      have h1 := A.tu.gr.lv 0 hT.r0
      have h2 := hT.top p h.inn p0
      rw [h.W.pl.lv] at h2
      omega
    · have hwv : wantV (enS (t.nd p) (S i)) = lowV (t.nd p) (S i) := by
        show (if 0 < (S i).lv + 1 then lowV (t.nd p) (S i) else _) = _
        rw [if_pos (by omega)]
      rw [hwv]
      show t'.low 0 ≤ _
      rw [A.tu.ok.l0]; omega
    · have h1 : (S i).kd = 4 := hk4
      omega
  · rw [rnk_wr h.sw, rnk_rd (show (enS (t.nd p) (S i)).sw = _ from rfl)]
    show m' (0 : Int).toNat + 4 + 70 * (9 - ((S i).lv + 1)).toNat < _
    rw [h.pn, if_pos h.V, h.la, hp]
    have h1 := hm'.le (0 : Int).toNat
    have h2 : ((2 : Int) - 1).toNat = 1 := rfl
    rw [h2]
    omega
end Go.Proofs.YtajobgmnmbnhiaaGreatDoor.Sap
