/- WHAT IS PROVED HERE: plain facts: with 64 pages the root's level is at most 3; which nodes are not entered yet (Entd), and that accesses keep it (no program's function is walked). Conditions: none but those named at each theorem. -/
import Derived.Test.YtajobgmnmbnhiaaDoorPt47
import Derived.Test.YtajobgmnmbnhiaaDoorPt49
namespace Go.Proofs.YtajobgmnmbnhiaaDoor.Sap
open Go.RowKit
theorem Xtr.quiet {wt : Bool} {gw : Nat} {x : Wd} {t : Tre} {S : Nat → St} {o : List Dn} (h : Inv wt gw x t S o) (X : Xtr x t S) (hid : ∀ c, c < 64 → x.bs[c]? = some (-1)) : x.rf = true ∨ ∀ q, t.inn q → q ≠ 0 → Up t q := by
  rcases X.en with hr | hE
  · exact Or.inl hr
  · refine Or.inr fun q hq h0 => ?_
    rcases hE q hq h0 with h1 | ⟨i, e, h1, h2, -⟩
    · exact h1
    · obtain ⟨c, hc, hb⟩ := h.own i e h1 h2
      rw [hid c hc] at hb
      have := Option.some.inj hb
      omega
theorem chl_last (ks vs : List Int) (key : Int) (hl : ks.length = vs.length) (hp : ks.Pairwise (· < ·)) (k : Nat) (hk : k ≤ ks.length) (hh : ∃ x, ks.head? = some x ∧ x ≤ key) (h0 : 0 < k) :
    ∃ e ∈ ks.zip vs, chl ks vs key k = e.2 ∧ e.1 ≤ key ∧ ∀ (j : Nat) (hj : j < k), ks[j]'(by omega) ≤ key → ks[j]'(by omega) ≤ e.1 := by
  induction k with
  | zero => omega
  | succ k ih =>
    have hk1 : k < ks.length := by omega
    have e1 : ks[k]?.getD 0 = ks[k] := by rw [List.getElem?_eq_getElem hk1]; rfl
    have e2 : vs[k]?.getD 0 = vs[k]'(by omega) := by rw [List.getElem?_eq_getElem (by omega)]; rfl
    unfold chl
    rw [e1, e2]
    by_cases hc : ks[k] ≤ key
    · rw [if_pos hc]
      refine ⟨(ks[k], vs[k]'(by omega)), List.mem_iff_getElem.2 ⟨k, by simp; omega, by simp⟩, rfl, hc, fun j hj _ => ?_⟩
      show ks[j]'(by omega) ≤ ks[k]
      rcases Nat.lt_or_ge j k with h1 | h1
      · have := List.pairwise_iff_getElem.1 hp j k (by omega) hk1 h1
        omega
      · have : j = k := by omega
        subst this
        exact Int.le_refl _
    · rw [if_neg hc]
      rcases Nat.eq_zero_or_pos k with rfl | hp0
      · obtain ⟨x, hx, hxk⟩ := hh
        rw [List.head?_eq_getElem?, List.getElem?_eq_getElem hk1] at hx
        have := Option.some.inj hx
        omega
      · obtain ⟨e, a1, a2, a3, a4⟩ := ih (by omega) hp0
        refine ⟨e, a1, a2, a3, fun j hj hjk => ?_⟩
        rcases Nat.lt_or_ge j k with h1 | h1
        · exact a4 j h1 hjk
        · have : j = k := by omega
          subst this
          exact absurd hjk hc
theorem no_link {t : Tre} (h : t.Ok) (hup : ∀ q, t.inn q → q ≠ 0 → Up t q) {p : Nat} {key : Int} (hp : t.inn p) (h1 : t.low p ≤ key) (h2 : key < (t.nd p).hi) (h9 : key ≤ 9999) (hl : 0 < (t.nd p).lv) {q : Nat} (hq : chl (t.nd p).ks (t.nd p).vs key (t.nd p).ks.length = (q : Int)) : key < (t.nd q).hi := by
  have hb := right_bd _ (h.rt p hp)
  have hf := h.fst p hp hl
  have hpos : 0 < (t.nd p).ks.length := by
    cases hks : (t.nd p).ks with
    | nil => rw [hks] at hf; cases hf
    | cons _ _ => simp
  obtain ⟨e, a1, a2, a3, a4⟩ := chl_last (t.nd p).ks (t.nd p).vs key hb.2.2.2.1 (right_pw _ (h.rt p hp)) _ (Nat.le_refl _) ⟨_, hf, h1⟩ hpos
  obtain ⟨q', q1, q2, q3, q4⟩ := h.chd p hp hl e a1
  obtain rfl : q = q' := by omega
  rcases Int.decLt key (t.nd q).hi with hlt | hlt
  · obtain ⟨r, r1, r2, r3, r4⟩ := h.lnk q q2 (by omega)
    have hr0 : r ≠ 0 := fun e0 => by
      subst e0
      have := h.lo q q2
      rw [h.l0] at r3
      omega
    obtain ⟨p', b1, b2, b3⟩ := hup r r2 hr0
    have hk := ent_key b3
    have hk1 := h.ks p' b1 _ hk.1
    have hk2 := (right_kb _ (h.rt p' b1) _ hk.1).2
    have hlo := h.lo q q2
    have hke := h.ks p hp _ (ent_key (n := t.nd p) a1).1
    have hk1' : t.low p' ≤ t.low r := hk1
    have hk2' : t.low r < (t.nd p').hi := hk2
    obtain rfl : p = p' := h.alone (key := t.low r) hp b1 (by omega) (by omega) (by omega) hk1' hk2'
    obtain ⟨j, hj, hje⟩ := List.mem_iff_getElem.1 hk.1
    have := a4 j hj (by rw [hje]; show t.low r ≤ key; omega)
    rw [hje] at this
    have h5 : t.low r ≤ e.1 := this
    omega
  · exact hlt
theorem rkQ_ex (Q : Wd → Nat → Prop) : ∃ rk : Wd → Nat, ∀ x r, Q x r → Q x (rk x) ∧ rk x ≤ r := by
  classical
  refine ⟨fun x => if h : ∃ r, Q x r then (least_ex (Q x) h.choose_spec).choose else 0, fun x r hr => ?_⟩
  have h : ∃ r, Q x r := ⟨r, hr⟩
  simp only [h, dif_pos]
  have := (least_ex (Q x) h.choose_spec).choose_spec
  exact ⟨this.1, this.2 r hr⟩
def AkL (gw i : Nat) (key : Int) (x : Wd) (r : Nat) : Prop := ∃ t S o m d, Inv false gw x t S o ∧ RkOk t m ∧ x.ds.length = i + 1 ∧ (∀ c, c < 64 → c ≠ 0 → x.bs[c]? = some (-1)) ∧ x.ds[i]? = some d ∧ d.k = 1 ∧ d.key = key ∧ x.bs[0]? = some (i : Int) ∧ d.en = false ∧ r = rnk m x.V (S i) ∧ x.now + (r : Int) ≤ 90000000 ∧
  (x.rf = true ∨ ((∀ q, t.inn q → q ≠ 0 → Up t q) ∧ key < (t.nd (S i).pg.toNat).hi ∧ (d.ts.length : Int) + (t.nd (S i).pg.toNat).lv = (t.nd 0).lv))
def AkE (gw i : Nat) (x : Wd) : Prop := ∃ t S o d, Inv false gw x t S o ∧ x.ds.length = i + 1 ∧ x.ds[i]? = some d ∧ x.bs[0]? = some (-1) ∧ d.er = 0 ∧ (x.rf = true ∨ ((d.ts.length : Int) = (t.nd 0).lv + 1 ∧ d.pt = (t.nd 0).lv))
def GbI (gw : Nat) (key : Int) (x : Wd) : Prop := ∃ i r, i ≤ 89000000 ∧ AkL gw i key x r
theorem akl_step (w0 : World) (htab : Tab w0) {i : Nat} (hi : i ≤ 89000000) {key : Int} {x : Wd} {r : Nat} (hx : AkL w0.heap.size i key x r) (fr : List As) (W : World) (hM : M w0 w0.heap.size W (x.as ++ fr)) :
    Calls Tryd.prog 56 #[.pointer (some ⟨w0.heap.size, 0, none⟩), .int .i64 0] W fun e w' => (∃ u, e = .returned u) ∧ ∃ x', (AkE w0.heap.size i x' ∨ ∃ r', r' < r ∧ AkL w0.heap.size i key x' r') ∧ M w0 w0.heap.size w' (x'.as ++ fr) := by
  obtain ⟨t, S, o, m, d, h, hm, hlen, hoth, hd, hk, hkey, hb, he, hr, hnow, hX⟩ := hx
  have P : Mov false w0.heap.size x t S o 0 i d := ⟨h, by omega, hb, hd, he, by omega⟩
  have L := P.live
  have hD := h.ds i d hd
  have hop := opR_parts hD.op
  have hil : i < x.ds.length := by omega
  have hbl : 0 < x.bs.length := by rw [h.bsl]; omega
  have hsw : (S i).sw = ⟨#[]⟩ := by
    rcases L.ok.sw with h1 | h1
    · exact h1.1
    · have := L.kd; omega
  have hl0 : (S i).lv = 0 := L.ok.lv0 (by have := L.kd; omega)
  have hwk : wantV (S i) = key := by rw [L.ok.wkey hl0 (by have := L.kd; omega), L.key, hkey]
  obtain ⟨p, tx, ver, R⟩ := P.rdPg hsw
  have hpn : (S i).pg.toNat = p := by have := R.pg; omega
  have hwy := L.way
  rw [hpn] at hwy
  rw [hwk] at hwy
  by_cases hgo : rdGo (S i) (t.nd p)
  · obtain ⟨a1, a2, a3⟩ := P.rd_on hm hsw R.pg R.p64 R.inn R.U R.T R.V R.un R.v0 hgo
    have C := P.run_on (by omega) a1 fr w0 W w0.heap.size htab rfl hM
    refine C.mono ?_
    rintro e w' ⟨hu, tm, f, hf, hM'⟩
    have ui : upS S i { S i with pg := onwV (t.nd p) (wantV (S i)), step := (S i).step + 1 } i = { S i with pg := onwV (t.nd p) (wantV (S i)), step := (S i).step + 1 } := if_pos rfl
    refine ⟨hu, _, Or.inr ⟨_, ?_, t, _, o, m, _, a2 tm f _ hf, hm, by show (x.ds.set i _).length = _; rw [List.length_set]; exact hlen, hoth, List.getElem?_set_self hil, hk, hkey, hb, he, rfl, ?_, ?_⟩, hM'⟩
    · rw [ui, hr]; exact a3
    · rw [ui]
      show x.now + 1 + _ ≤ _
      have : rnk m x.V { S i with pg := onwV (t.nd p) (wantV (S i)), step := (S i).step + 1 } < r := by rw [hr]; exact a3
      show x.now + 1 + (rnk m x.V { S i with pg := onwV (t.nd p) (wantV (S i)), step := (S i).step + 1 } : Int) ≤ 90000000
      omega
    · rcases hX with hX | ⟨x1, x2, x3⟩
      · exact Or.inl (by show (x.rf || d.rf) = true; rw [hX]; rfl)
      · rw [hpn] at x2 x3
        rw [ui]
        have hlv : 0 < (t.nd p).lv := by unfold rdGo at hgo; rw [hwk, hl0] at hgo; omega
        obtain ⟨q, q1, q2, q3⟩ := hwy.child h.tok (by omega) (by omega)
        have eon : onwV (t.nd p) (wantV (S i)) = (q : Int) := by
          unfold onwV
          rw [hwk, if_neg (by omega)]; exact q1
        have hnl := no_link h.tok x1 R.inn hwy.lo x2 (by omega) hlv q1
        refine Or.inr ⟨x1, ?_, ?_⟩
        · show key < (t.nd (onwV (t.nd p) (wantV (S i))).toNat).hi
          rw [eon, Int.toNat_natCast]; exact hnl
        · show ((d.ts ++ [x.now]).length : Int) + (t.nd (onwV (t.nd p) (wantV (S i))).toNat).lv = _
          rw [eon, Int.toNat_natCast, List.length_append, List.length_singleton]
          omega
  · obtain ⟨a1, a2⟩ := P.rd_get hsw R.pg R.p64 R.U R.T R.V R.un R.v0 hgo (by rw [L.kd]; exact hk)
    have C := P.run_fin (by omega) a1 fr w0 W w0.heap.size htab rfl hM
    refine C.mono ?_
    rintro e w' ⟨hu, tm, kv, vv, cv, hM'⟩
    refine ⟨hu, _, Or.inl ⟨t, _, o, _, a2 tm kv vv cv _, by show (x.ds.set i _).length = _; rw [List.length_set]; exact hlen, List.getElem?_set_self hil, List.getElem?_set_self hbl, rfl, ?_⟩, hM'⟩
    rcases hX with hX | ⟨x1, x2, x3⟩
    · exact Or.inl (by show (x.rf || d.rf) = true; rw [hX]; rfl)
    · rw [hpn] at x2 x3
      have hlv : (t.nd p).lv = 0 := by
        have := (right_bd _ R.un.1).1
        unfold rdGo at hgo
        rw [hl0] at hgo
        omega
      refine Or.inr ⟨?_, ?_⟩
      · show ((d.ts ++ [x.now]).length : Int) = _
        rw [List.length_append, List.length_singleton]
        omega
      · show (d.ts.length : Int) = _
        omega
theorem askI (w0 : World) (htab : Tab w0) : AskOk (InvG false) GbI w0 where
  bg := fun x key W fr ⟨⟨t, S, o, h, X⟩, _⟩ hid hn hnd hk0 hk1 hM => by
    have ho : opR 1 key 0 = true := by simp [opR, hk0, hk1]
    have hp := h.puts
    have C := begin_step x 0 1 key 0 fr w0 W w0.heap.size htab rfl (by omega) (by omega) hp.1 (by omega) ho hM
    rw [h.pg] at C
    refine C.mono ?_
    rintro e w' ⟨hu, gd, kg, kc, f, dv, hf, hM'⟩
    have h9 := h.begun (by omega) (hid 0 (by omega)) ho gd kg kc f dv hf
    rw [h.pg] at h9
    obtain ⟨m, hm1, hm2⟩ := rank_ex t h.tok
    have ui : upS S x.ds.length (bgS 1 key 0) x.ds.length = bgS 1 key 0 := if_pos rfl
    have hrk : rnk m x.V (bgS 1 key 0) ≤ 1000 := (rnk_rng (t := t) ⟨hm1, hm2⟩ (bgS_ok ho)).2
    refine ⟨hu, _, ⟨x.ds.length, _, hnd, t, _, o, m, Dd.new gd kg kc 1 key 0 f, h9, ⟨hm1, hm2⟩, by show (x.ds ++ [_]).length = _; rw [List.length_append, List.length_singleton], fun c hc h0 => ?_, ?_, rfl, rfl, List.getElem?_set_self (by rw [h.bsl]; omega), rfl, rfl, ?_, ?_⟩, hM'⟩
    · show (x.bs.set 0 (x.ds.length : Int))[c]? = some (-1)
      rw [List.getElem?_set_ne (Ne.symm h0)]; exact hid c hc
    · show (x.ds ++ [Dd.new gd kg kc 1 key 0 f])[x.ds.length]? = _
      rw [List.getElem?_append_right (Nat.le_refl _), Nat.sub_self]; rfl
    · rw [ui]
      show x.now + (rnk m x.V (bgS 1 key 0) : Int) ≤ _
      omega
    · rcases X.1.quiet h hid with h1 | h1
      · exact Or.inl h1
      · rw [ui]
        refine Or.inr ⟨h1, ?_, ?_⟩
        · show key < (t.nd 0).hi
          rw [h.tok.h0]; omega
        · show ((0 : Nat) : Int) + (t.nd 0).lv = _
          omega
  pb := fun x key ⟨_, _, _, _, _, _, _, _, h, _⟩ => h.pg
  al := fun x key W fr ⟨i, r, hi, hL⟩ hM => by
    obtain ⟨rk, hrk⟩ := rkQ_ex (AkL w0.heap.size i key)
    have live : ∀ {x r}, AkL w0.heap.size i key x r → x.bs[0]? = some (i : Int) ∧ 0 < r ∧ r ≤ 1000 := fun {x r} ⟨t, S, o, m, d, h, hm, _, _, hd, _, _, hb, he, hr, _⟩ => ⟨hb, by rw [hr]; exact rnk_rng hm ((h.ds i d hd).lv he).ok⟩
    refine (alone_gen 0 w0.heap.size (fun x => AkE w0.heap.size i x ∨ ∃ r, AkL w0.heap.size i key x r) (fun x => if x.bs[0]? = some (-1) then 0 else rk x) fr w0 W w0.heap.size x (by omega) (fun x hx => ?_) (fun x hx => ?_) (fun x j W hx hb hW => ?_) (Or.inr ⟨r, hL⟩) ?_ hM).mono ?_
    · rcases hx with ⟨_, _, _, _, h, _⟩ | ⟨_, _, _, _, _, _, h, _⟩ <;> exact h.pg
    · rcases hx with ⟨_, _, _, _, _, _, _, h1, _⟩ | ⟨r, h1⟩
      · exact Or.inl h1
      · have h2 := live (hrk x r h1).1
        refine Or.inr ⟨⟨i, h2.1⟩, ?_⟩
        show 0 < (if x.bs[0]? = some (-1) then 0 else rk x)
        rw [h2.1, if_neg ne_neg]; exact h2.2.1
    · rcases hx with ⟨_, _, _, _, _, _, _, h1, _⟩ | ⟨r, h1⟩
      · rw [hb] at h1; exact absurd h1 ne_neg
      · have h2 := (hrk x r h1).1
        have h3 := live h2
        refine (akl_step w0 htab hi h2 fr W hW).mono ?_
        rintro e w' ⟨hu, x', hx', hM'⟩
        refine ⟨hu, x', ?_, ?_, hM'⟩
        · rcases hx' with h4 | ⟨r', -, h4⟩
          · exact Or.inl h4
          · exact Or.inr ⟨r', h4⟩
        · show (if x'.bs[0]? = some (-1) then 0 else rk x') < (if x.bs[0]? = some (-1) then 0 else rk x)
          rw [h3.1, if_neg ne_neg]
          rcases hx' with ⟨_, _, _, _, _, _, _, h4, _⟩ | ⟨r', hlt, h4⟩
          · rw [if_pos h4]; exact h3.2.1
          · have h5 := (hrk x' r' h4).2
            have h6 := (live h4).1
            rw [h6, if_neg ne_neg]
            omega
    · show (if x.bs[0]? = some (-1) then 0 else rk x) ≤ 1000
      have h2 := live (hrk x r hL).1
      rw [h2.1, if_neg ne_neg]; exact h2.2.2
    · rintro e w' ⟨hu, x', hx', hb', hM'⟩
      rcases hx' with ⟨t, S, o, d, h, hlen, hd, -, her, hX⟩ | ⟨r', h4⟩
      · exact ⟨hu, x', i, d, t.nd 0, h.pg, hlen, by omega, hd, her, h.say 0 h.tok.r0, hX, hM'⟩
      · rw [(live h4).1] at hb'; exact absurd hb' ne_neg
theorem calm_any (sv : Value) (ts : List Tn) (key client : Int) (w : World) (htab : Tab w) (hT : TRd w sv ts) (hok : ∀ t ∈ ts, t.ok) (hlen : ts.length ≤ 1048576) (hkey : I64 key) (hcl : I64 client) :
    Calls Tryd.prog 10 #[sv, .int .i64 key, .int .i64 client] w fun e w' => e = .returned (.bool true) ∧ Below w.heap.size w w' := by
  obtain ⟨rk, G⟩ := good_ex
  exact calm_gen sv ts key client (InvG false) rk GbI w htab hT hok hlen hkey hcl G fun W ht => askI W ht
end Go.Proofs.YtajobgmnmbnhiaaDoor.Sap
