/- WHAT IS PROVED HERE: plain facts: with 64 pages the root's level is at most 3; which nodes are not entered yet (Entd), and that accesses keep it (no program's function is walked). Conditions: none but those named at each theorem. -/
import Derived.Test.YtajobgmnmbnhiaaGreatDoorPt47
import Derived.Test.YtajobgmnmbnhiaaGreatDoorPt48
namespace Go.Proofs.YtajobgmnmbnhiaaGreatDoor.Sap
open Go.RowKit
theorem Xtr.quiet {wt : Bool} {gw : Nat} {x : Wd} {t : Tre} {S : Nat → St} {o : List Dn} (h : Inv wt gw x t S o) (X : Xtr x t S) (hid : ∀ c, c < 64 → x.bs[c]? = some (-1)) : x.rf = true ∨ ∀ q, t.inn q → q ≠ 0 → Up t q := by
  rcases X.en with hr | hE
  · exact Or.inl hr
  · refine Or.inr fun q hq h0 => ?_
    rcases hE q hq h0 with h1 | ⟨i, e, h1, h2, -⟩
    · exact h1
    · obtain ⟨c, hc, hb⟩ := h.own i e h1 h2
      rw [hid c hc] at hb
      have := Option.some.inj hb
      omega
theorem chl_last (ks vs : List Int) (key : Int) (hl : ks.length = vs.length) (hp : ks.Pairwise (· < ·)) (k : Nat) (hk : k ≤ ks.length) (hh : ∃ x, ks.head? = some x ∧ x ≤ key) (h0 : 0 < k) :
    ∃ e ∈ ks.zip vs, chl ks vs key k = e.2 ∧ e.1 ≤ key ∧ ∀ (j : Nat) (hj : j < k), ks[j]'(by omega) ≤ key → ks[j]'(by omega) ≤ e.1 := by
  induction k with
  | zero => omega
  | succ k ih =>
    have hk1 : k < ks.length := by omega
    have e1 : ks[k]?.getD 0 = ks[k] := by rw [List.getElem?_eq_getElem hk1]; rfl
    have e2 : vs[k]?.getD 0 = vs[k]'(by omega) := by rw [List.getElem?_eq_getElem (by omega)]; rfl
    unfold chl
    rw [e1, e2]
    by_cases hc : ks[k] ≤ key
    · rw [if_pos hc]
      refine ⟨(ks[k], vs[k]'(by omega)), List.mem_iff_getElem.2 ⟨k, by simp; omega, by simp⟩, rfl, hc, fun j hj _ => ?_⟩
      show ks[j]'(by omega) ≤ ks[k]
      rcases Nat.lt_or_ge j k with h1 | h1
      · have := List.pairwise_iff_getElem.1 hp j k (by omega) hk1 h1
        omega
      · have : j = k := by omega
        subst this
        exact Int.le_refl _
    · rw [if_neg hc]
      rcases Nat.eq_zero_or_pos k with rfl | hp0
      · obtain ⟨x, hx, hxk⟩ := hh
        rw [List.head?_eq_getElem?, List.getElem?_eq_getElem hk1] at hx
        have := Option.some.inj hx
        omega
      · obtain ⟨e, a1, a2, a3, a4⟩ := ih (by omega) hp0
        refine ⟨e, a1, a2, a3, fun j hj hjk => ?_⟩
        rcases Nat.lt_or_ge j k with h1 | h1
        · exact a4 j h1 hjk
        · have : j = k := by omega
          subst this
          exact absurd hjk hc
theorem no_link {t : Tre} (h : t.Ok) (hup : ∀ q, t.inn q → q ≠ 0 → Up t q) {p : Nat} {key : Int} (hp : t.inn p) (h1 : t.low p ≤ key) (h2 : key < (t.nd p).hi) (h9 : key ≤ 9999) (hl : 0 < (t.nd p).lv) {q : Nat} (hq : chl (t.nd p).ks (t.nd p).vs key (t.nd p).ks.length = (q : Int)) : key < (t.nd q).hi := by
  have hb := right_bd _ (h.rt p hp)
  have hf := h.fst p hp hl
  have hpos : 0 < (t.nd p).ks.length := by
    cases hks : (t.nd p).ks with
    | nil => rw [hks] at hf; cases hf
    | cons _ _ => simp
  obtain ⟨e, a1, a2, a3, a4⟩ := chl_last (t.nd p).ks (t.nd p).vs key hb.2.2.2.1 (right_pw _ (h.rt p hp)) _ (Nat.le_refl _) ⟨_, hf, h1⟩ hpos
  obtain ⟨q', q1, q2, q3, q4⟩ := h.chd p hp hl e a1
  obtain rfl : q = q' := by omega
  rcases Int.decLt key (t.nd q).hi with hlt | hlt
  · obtain ⟨r, r1, r2, r3, r4⟩ := h.lnk q q2 (by omega)
    have hr0 : r ≠ 0 := fun e0 => by
      subst e0
      have := h.lo q q2
      rw [h.l0] at r3
      omega
    obtain ⟨p', b1, b2, b3⟩ := hup r r2 hr0
    have hk := ent_key b3
    have hk1 := h.ks p' b1 _ hk.1
    have hk2 := (right_kb _ (h.rt p' b1) _ hk.1).2
    have hlo := h.lo q q2
    have hke := h.ks p hp _ (ent_key (n := t.nd p) a1).1
    have hk1' : t.low p' ≤ t.low r := hk1
    have hk2' : t.low r < (t.nd p').hi := hk2
    obtain rfl : p = p' := h.alone (key := t.low r) hp b1 (by omega) (by omega) (by omega) hk1' hk2'
    obtain ⟨j, hj, hje⟩ := List.mem_iff_getElem.1 hk.1
    have := a4 j hj (by rw [hje]; show t.low r ≤ key; omega)
    rw [hje] at this
    have h5 : t.low r ≤ e.1 := this
    omega
  · exact hlt
theorem rkQ_ex (Q : Wd → Nat → Prop) : ∃ rk : Wd → Nat, ∀ x r, Q x r → Q x (rk x) ∧ rk x ≤ r := by
  classical
  refine ⟨fun x => if h : ∃ r, Q x r then (least_ex (Q x) h.choose_spec).choose else 0, fun x r hr => ?_⟩
  have h : ∃ r, Q x r := ⟨r, hr⟩
  simp only [h, dif_pos]
  have := (least_ex (Q x) h.choose_spec).choose_spec
  exact ⟨this.1, this.2 r hr⟩
structure Sta where
  i : Nat
  now : Int
  rf : Bool
  lv : Int
  I : Nat
  ds : List Dd
structure Solo (a : Sta) (x : Wd) (t : Tre) (S : Nat → St) (d : Dd) : Prop where
  X : Xtr x t S
  old : ∀ j, j < a.i → x.ds[j]? = a.ds[j]?
  len : x.ds.length = a.i + 1
  oth : ∀ c, c < 64 → c ≠ 0 → x.bs[c]? = some (-1)
  tm : ∀ τ ∈ d.ts, a.now ≤ τ
  nw : a.now ≤ x.now
  rd : (S a.i).sw = ⟨#[]⟩ → (S a.i).sp = []
  wr : (S a.i).sw ≠ ⟨#[]⟩ → x.V[(S a.i).pg.toNat]? = some (S a.i).ver ∧ ((S a.i).sp.length : Int) = (S a.i).laid
  use : x.rf = false → ∀ p : Nat, x.U[p]? = some true → t.inn p ∨ (p : Int) ∈ (S a.i).sp
  pot : ∃ B, Pot t B ∧ ((S a.i).lv = 0 → B ≤ 3 * a.I + 3) ∧ (0 < (S a.i).lv → B + 4 ≤ 3 * (a.I + 1) + 3)
  rf : x.rf = true → 61 ≤ a.I
  drf : d.rf = false
  get : d.k = 1 → (t.nd 0).lv = a.lv ∧ (a.rf = true ∨ ((∀ q, t.inn q → q ≠ 0 → Up t q) ∧ d.key < (t.nd (S a.i).pg.toNat).hi ∧ (d.ts.length : Int) + (t.nd (S a.i).pg.toNat).lv = a.lv))
structure SoloE (a : Sta) (x : Wd) (t : Tre) (S : Nat → St) (d : Dd) : Prop where
  X : Xtr x t S
  old : ∀ j, j < a.i → x.ds[j]? = a.ds[j]?
  len : x.ds.length = a.i + 1
  own : x.ds[a.i]? = some d
  idle : ∀ c, c < 64 → x.bs[c]? = some (-1)
  tm : ∀ τ ∈ d.ts, a.now ≤ τ
  use : x.rf = false → ∀ p : Nat, x.U[p]? = some true → t.inn p
  pot : Pot t (3 * (a.I + if d.k = 2 ∧ d.er = 0 ∧ d.fd = false then 1 else 0) + 3)
  rf : x.rf = true → 61 ≤ a.I
  er : d.er = 4 → x.rf = true
  get : d.k = 1 → a.rf = true ∨ ((d.ts.length : Int) = a.lv + 1 ∧ d.pt = a.lv)
theorem Solo.on {gw : Nat} {a : Sta} {x : Wd} {t t' : Tre} {S : Nat → St} {o o' : List Dn} {d : Dd} (H : Solo a x t S d) (h : Mov false gw x t S o 0 a.i d) {s' : St} {T' : List ByteArray} {U' : List Bool} {V' kns' : List Int} (E : EvOn x t t' (S a.i) s' d U' o o')
    (hrd : s'.sw = ⟨#[]⟩ → s'.sp = []) (hwr : s'.sw ≠ ⟨#[]⟩ → V'[s'.pg.toNat]? = some s'.ver ∧ (s'.sp.length : Int) = s'.laid)
    (hget : d.k = 1 → (t'.nd 0).lv = a.lv ∧ (a.rf = true ∨ ((∀ q, t'.inn q → q ≠ 0 → Up t' q) ∧ d.key < (t'.nd s'.pg.toNat).hi ∧ (d.ts.length : Int) + 1 + (t'.nd s'.pg.toNat).lv = a.lv)))
    (tm : Value) (f : ByteArray) : Solo a { x with T := T', U := U', V := V', now := x.now + 1, rf := x.rf || d.rf, ds := x.ds.set a.i (d.go x.now tm f kns' d.rf) } t' (upS S a.i s') (d.go x.now tm f kns' d.rf) := by
  have hi := (List.getElem?_eq_some_iff.1 h.ds).1
  have upeq : upS S a.i s' a.i = s' := if_pos rfl
  have hrfe : (x.rf || d.rf) = x.rf := by rw [H.drf, Bool.or_false]
  have gr : Grows t t' := by
    rcases E.2 with ⟨rfl, -⟩ | ⟨p, N, A, -⟩
    · exact Grows.refl _
    · exact A.tu.gr
  have hlvb := h.live.ok.lvb
  refine ⟨xtr_on h H.X E rfl h.en (fun e => by show (x.rf || d.rf) = true; rw [e]; rfl), fun j hj => ?_, ?_, H.oth, fun τ hτ => ?_, ?_, ?_, ?_, ?_, ?_, ?_, H.drf, fun hk => ?_⟩
  · show (x.ds.set a.i _)[j]? = _
    rw [List.getElem?_set_ne (by omega)]; exact H.old j hj
  · show (x.ds.set a.i _).length = _
    rw [List.length_set]; exact H.len
  · rcases List.mem_append.1 (show τ ∈ d.ts ++ [x.now] from hτ) with h1 | h1
    · exact H.tm τ h1
    · rw [List.mem_singleton] at h1; rw [h1]; exact H.nw
  · show a.now ≤ x.now + 1; have := H.nw; omega
  · rw [upeq]; exact hrd
  · rw [upeq]; exact hwr
  · intro hr p hp
    replace hr : (x.rf || d.rf) = false := hr
    rw [hrfe] at hr
    rw [upeq]
    rcases E.1.1 p hp with h1 | h1
    · rcases H.use hr p h1 with h2 | h2
      · exact Or.inl (gr.inn p h2)
      · rcases E.1.2 _ h2 with h3 | ⟨q, h3, h4⟩
        · exact Or.inr h3
        · have : p = q := by omega
          subst this; exact Or.inl h4
    · exact Or.inr h1
  · obtain ⟨B, hB, b0, b1⟩ := H.pot
    rw [upeq]
    have hB3 := hB.one h.inv.tok
    rcases E.2 with ⟨rfl, e1, -, rfl⟩ | ⟨p, N, A, C, hlv, hpg, rfl, rfl⟩
    · exact ⟨B, hB, by rw [e1]; exact b0, by rw [e1]; exact b1⟩
    · have hP := A.pot C h.inv.tok hB
      have hpos : (enS (t.nd p) (S a.i)).lv = (S a.i).lv + 1 := rfl
      rw [hpos]
      by_cases hl : (S a.i).lv = 0
      · have := b0 hl
        exact ⟨B - 1, hP.1 (by omega) hpg _ (by omega), fun e => by omega, fun _ => by omega⟩
      · have := b1 (by omega)
        exact ⟨B, hP.2.2.2.1 (by omega) hpg, fun e => by omega, fun _ => by omega⟩
  · intro hr
    replace hr : (x.rf || d.rf) = true := hr
    rw [hrfe] at hr
    exact H.rf hr
  · obtain ⟨g1, g2⟩ := hget hk
    rw [upeq]
    refine ⟨g1, ?_⟩
    rcases g2 with g2 | ⟨g3, g4, g5⟩
    · exact Or.inl g2
    · refine Or.inr ⟨g3, g4, ?_⟩
      show ((d.ts ++ [x.now]).length : Int) + _ = _
      rw [List.length_append, List.length_singleton]
      omega
theorem Solo.fin {gw : Nat} {a : Sta} {x : Wd} {t t' : Tre} {S : Nat → St} {o o' : List Dn} {d : Dd} (H : Solo a x t S d) (h : Mov false gw x t S o 0 a.i d) {T' : List ByteArray} {U' : List Bool} {V' kns' : List Int} {rf1 : Bool} {er : Int} {fd : Bool} {va pt : Int} {ks vs : List Int} {cs : List (Int × Int)} (E : EvFin x t t' (S a.i) d rf1 er U' o o')
    (hrf : rf1 = true → 61 ≤ a.I) (hsp : rf1 = true ∨ ∀ b ∈ (S a.i).sp, ∃ q : Nat, b = (q : Int) ∧ t'.inn q) (her : er = 4 → rf1 = true) (hs0 : er = 4 → t' = t) (hfd : 0 < (S a.i).lv → er = 0 ∧ fd = false) (hf : fd = true → d.k = 2 → d.key ∈ (t.nd (S a.i).pg.toNat).ks)
    (hget : d.k = 1 → a.rf = true ∨ ((d.ts.length : Int) = a.lv ∧ pt = a.lv))
    (tm kv vv cv : Value) : SoloE a { x with T := T', U := U', V := V', bs := x.bs.set 0 (-1), now := x.now + 1, rf := x.rf || rf1, ds := x.ds.set a.i (d.fin x.now kns' rf1 er fd va pt ks vs cs tm kv vv cv) } t' (upS S a.i (S a.i)) (d.fin x.now kns' rf1 er fd va pt ks vs cs tm kv vv cv) := by
  have hi := (List.getElem?_eq_some_iff.1 h.ds).1
  have L := h.live
  have hlvb := L.ok.lvb
  have hbl : 0 < x.bs.length := by rw [h.inv.bsl]; omega
  have gr : Grows t t' := by
    rcases E.2.2 with ⟨rfl, -⟩ | ⟨p, N, A, -⟩
    · exact Grows.refl _
    · exact A.tu.gr
  refine ⟨xtr_fin h H.X E rfl (fun e => by show (x.rf || rf1) = true; rw [e]; rfl) (fun e => by show (x.rf || rf1) = true; rw [e, Bool.or_true]), fun j hj => ?_, ?_, List.getElem?_set_self hi, fun c hc => ?_, fun τ hτ => ?_, ?_, ?_, ?_, fun e => ?_, fun hk => ?_⟩
  · show (x.ds.set a.i _)[j]? = _
    rw [List.getElem?_set_ne (by omega)]; exact H.old j hj
  · show (x.ds.set a.i _).length = _
    rw [List.length_set]; exact H.len
  · show (x.bs.set 0 (-1))[c]? = _
    by_cases e : c = 0
    · subst e; exact List.getElem?_set_self hbl
    · rw [List.getElem?_set_ne (Ne.symm e)]; exact H.oth c hc e
  · rcases List.mem_append.1 (show τ ∈ d.ts ++ [x.now] from hτ) with h1 | h1
    · exact H.tm τ h1
    · rw [List.mem_singleton] at h1; rw [h1]; exact H.nw
  · intro hr p hp
    replace hr : (x.rf || rf1) = false := hr
    replace hp : U'[p]? = some true := hp
    rw [Bool.or_eq_false_iff] at hr
    rw [E.1] at hp
    rcases H.use hr.1 p hp with h2 | h2
    · exact gr.inn p h2
    · rcases hsp with e | hsp
      · rw [e] at hr; exact absurd hr.2 (by decide)
      · obtain ⟨q, h3, h4⟩ := hsp _ h2
        have : p = q := by omega
        subst this; exact h4
  · obtain ⟨B, hB, b0, b1⟩ := H.pot
    show Pot t' (3 * (a.I + if d.k = 2 ∧ er = 0 ∧ fd = false then 1 else 0) + 3)
    have kpos : 0 < (S a.i).lv → d.k = 2 := fun hl => by
      have := L.kd
      rcases L.ok.ent with e | e
      · omega
      · omega
    rcases E.2.2 with ⟨rfl, -, ho⟩ | ⟨p, N, A, C, hlv, hpgp, hpg, rfl⟩
    · by_cases hl : 0 < (S a.i).lv
      · rw [if_pos ⟨kpos hl, hfd hl⟩]
        exact hB.mono (by have := b1 hl; omega)
      · exact hB.mono (by have := b0 (by omega); omega)
    · have hP := A.pot C h.inv.tok hB
      by_cases hl : 0 < (S a.i).lv
      · rw [if_pos ⟨kpos hl, hfd hl⟩]
        exact (hP.2.2.2.2 (by omega)).mono (by have := b1 hl; omega)
      · have hl0 : (S a.i).lv = 0 := by omega
        have hb := b0 hl0
        have hpn : (S a.i).pg.toNat = p := by omega
        rcases C.i.kd with h2 | h3
        · have hdk : d.k = 2 := by rw [← L.kd]; exact h2
          have hwk : wantV (S a.i) = d.key := by rw [L.ok.wkey hl0 (by omega), L.key]
          cases hfb : fd with
          | true =>
            have := hf hfb hdk
            rw [hpn, ← hwk] at this
            exact (hP.2.2.1 (by omega) (Or.inl this)).mono (by omega)
          | false =>
            rcases E.2.1 with e0 | ⟨e0, e1, e2⟩
            · rw [if_pos ⟨hdk, e0, rfl⟩]
              exact (hP.2.1 (by omega)).mono (by omega)
            · rw [hs0 e0]; exact hB.mono (by omega)
        · exact (hP.2.2.1 (by omega) (Or.inr h3)).mono (by omega)
  · intro hr
    replace hr : (x.rf || rf1) = true := hr
    rcases Bool.or_eq_true_iff.1 hr with h1 | h1
    · exact H.rf h1
    · exact hrf h1
  · show (x.rf || rf1) = true
    rw [her e, Bool.or_true]
  · rcases hget hk with h1 | ⟨h1, h2⟩
    · exact Or.inl h1
    · refine Or.inr ⟨?_, h2⟩
      show ((d.ts ++ [x.now]).length : Int) = _
      rw [List.length_append, List.length_singleton]
      omega
theorem Solo.full {gw : Nat} {a : Sta} {x : Wd} {t : Tre} {S : Nat → St} {o : List Dn} {d : Dd} (H : Solo a x t S d) (h : Mov false gw x t S o 0 a.i d) (hU : ∀ k : Nat, k < 64 → x.U[k]? = some true) : 61 ≤ a.I := by
  classical
  cases hr : x.rf with
  | true => exact H.rf hr
  | false =>
    obtain ⟨B, hB, b0, b1⟩ := H.pot
    have hlvb := h.live.ok.lvb
    have hsp2 := h.live.ok.sp2
    have hn : (List.range 64).Nodup := List.nodup_range
    have hsplit : (List.range 64).length = ((List.range 64).filter fun p => decide (t.inn p)).length + ((List.range 64).filter fun p => !decide (t.inn p)).length := by
      have := List.length_eq_countP_add_countP (fun p => decide (t.inn p)) (l := List.range 64)
      rw [List.countP_eq_length_filter, List.countP_eq_length_filter] at this
      rw [this]
      congr 2
      refine List.filter_congr fun q _ => ?_
      simp
    rw [List.length_range] at hsplit
    have h1 := hB.pages h.inv.tok (A := (List.range 64).filter fun p => decide (t.inn p)) (hn.filter _) fun p hp => by simpa using (List.mem_filter.1 hp).2
    have h2 := nodup_subN (l := (List.range 64).filter fun p => !decide (t.inn p)) (hn.filter _) (l' := (S a.i).sp.map Int.toNat) fun p hp => by
      obtain ⟨hp1, hp2⟩ := List.mem_filter.1 hp
      have hni : ¬ t.inn p := by simpa using hp2
      rcases H.use hr p (hU p (List.mem_range.1 hp1)) with h5 | h5
      · exact absurd h5 hni
      · exact List.mem_map.2 ⟨_, h5, by omega⟩
    rw [List.length_map] at h2
    by_cases hl : (S a.i).lv = 0
    · have := b0 hl; omega
    · have := b1 (by omega); omega
def AccS (gw : Nat) (a : Sta) (x : Wd) (S : Nat → St) (d : Dd) (m : Nat → Nat) : Prop :=
  ∃ T' U' V' kns' rf1 r, Moves (S a.i).kd d.f x.T x.U x.V d.kns d.rf T' U' V' kns' rf1 r ∧
    ((∃ s' t' o' m', r = .on s' ∧ RkOk t' m' ∧ rnk m' V' s' < rnk m x.V (S a.i) ∧ ∀ tm f, f.data.toList = frT s' → Inv false gw { x with T := T', U := U', V := V', now := x.now + 1, rf := x.rf || rf1, ds := x.ds.set a.i (d.go x.now tm f kns' rf1) } t' (upS S a.i s') o' ∧ Solo a { x with T := T', U := U', V := V', now := x.now + 1, rf := x.rf || rf1, ds := x.ds.set a.i (d.go x.now tm f kns' rf1) } t' (upS S a.i s') (d.go x.now tm f kns' rf1)) ∨
     (∃ t' o' er fd va pt ks vs cs, r = .fin er fd va pt ks vs cs ∧ ∀ tm kv vv cv, Inv false gw { x with T := T', U := U', V := V', bs := x.bs.set 0 (-1), now := x.now + 1, rf := x.rf || rf1, ds := x.ds.set a.i (d.fin x.now kns' rf1 er fd va pt ks vs cs tm kv vv cv) } t' (upS S a.i (S a.i)) o' ∧ SoloE a { x with T := T', U := U', V := V', bs := x.bs.set 0 (-1), now := x.now + 1, rf := x.rf || rf1, ds := x.ds.set a.i (d.fin x.now kns' rf1 er fd va pt ks vs cs tm kv vv cv) } t' (upS S a.i (S a.i)) (d.fin x.now kns' rf1 er fd va pt ks vs cs tm kv vv cv)))
theorem Solo.acc {gw : Nat} {a : Sta} {x : Wd} {t : Tre} {S : Nat → St} {o : List Dn} {d : Dd} (H : Solo a x t S d) (h : Mov false gw x t S o 0 a.i d) {m : Nat → Nat} (hm : RkOk t m) : AccS gw a x S d m := by
  have L := h.live
  have hkd := L.kd
  have hdf := H.drf
  have rfF : d.rf = true → 61 ≤ a.I := fun e => by rw [hdf] at e; cases e
  by_cases hsw : (S a.i).sw = ⟨#[]⟩
  · obtain ⟨p, tx, ver, R⟩ := h.rdPg hsw
    have hsp := H.rd hsw
    have hpn : (S a.i).pg.toNat = p := by have := R.pg; omega
    have hspF : d.rf = true ∨ ∀ b ∈ (S a.i).sp, ∃ q : Nat, b = (q : Int) ∧ t.inn q := Or.inr fun b hb => by rw [hsp] at hb; cases hb
    by_cases hgo : rdGo (S a.i) (t.nd p)
    · obtain ⟨a1, a2, a3⟩ := h.rd_on hm hsw R.pg R.p64 R.inn R.U R.T R.V R.un R.v0 hgo
      refine ⟨_, _, _, _, _, _, a1, Or.inl ⟨_, t, o, m, rfl, hm, a3, fun tm f hf => ⟨a2 tm f _ hf, H.on h (o' := o) (s' := { S a.i with pg := onwV (t.nd p) (wantV (S a.i)), step := (S a.i).step + 1 }) ⟨⟨fun _ hp => Or.inl hp, fun _ ha => Or.inl ha⟩, Or.inl ⟨rfl, rfl, rfl, rfl⟩⟩ (fun _ => hsp) (fun e => absurd hsw e) (fun hk => ?_) tm f⟩⟩⟩
      obtain ⟨g1, g2⟩ := H.get hk
      refine ⟨g1, ?_⟩
      rcases g2 with g2 | ⟨x1, x2, x3⟩
      · exact Or.inl g2
      · have hop := opR_parts (h.inv.ds _ d h.ds).op
        have hl0 : (S a.i).lv = 0 := L.ok.lv0 (by omega)
        have hwk : wantV (S a.i) = d.key := by rw [L.ok.wkey hl0 (by omega), L.key]
        have hwy := L.way
        rw [hpn] at hwy x2 x3
        rw [hwk] at hwy
        have hlv : 0 < (t.nd p).lv := by unfold rdGo at hgo; rw [hwk, hl0] at hgo; omega
        obtain ⟨q, q1, q2, q3⟩ := hwy.child h.inv.tok (by omega) (by omega)
        have eon : onwV (t.nd p) (wantV (S a.i)) = (q : Int) := by
          unfold onwV
          rw [hwk, if_neg (by omega)]; exact q1
        have hnl := no_link h.inv.tok x1 R.inn hwy.lo x2 (by omega) hlv q1
        refine Or.inr ⟨x1, ?_, ?_⟩
        · show d.key < (t.nd (onwV (t.nd p) (wantV (S a.i))).toNat).hi
          rw [eon, Int.toNat_natCast]; exact hnl
        · show (d.ts.length : Int) + 1 + (t.nd (onwV (t.nd p) (wantV (S a.i))).toNat).lv = _
          rw [eon, Int.toNat_natCast]
          omega
    · have hk := L.ok.rng
      rcases (show (S a.i).kd = 1 ∨ (S a.i).kd = 4 ∨ (S a.i).kd = 3 ∨ (S a.i).kd = 2 by omega) with hk | hk | hk | hk
      · obtain ⟨a1, a2⟩ := h.rd_get hsw R.pg R.p64 R.U R.T R.V R.un R.v0 hgo hk
        have hl0 : (S a.i).lv = 0 := L.ok.lv0 (by omega)
        refine ⟨_, _, _, _, _, _, a1, Or.inr ⟨t, o, _, _, _, _, _, _, _, rfl, fun tm kv vv cv => ⟨a2 tm kv vv cv _, H.fin h (o' := o) ⟨rfl, Or.inl rfl, Or.inl ⟨rfl, Or.inl hl0, Or.inl rfl⟩⟩ rfF hspF (fun e => absurd e (by decide)) (fun e => absurd e (by decide)) (fun e => by omega) (fun _ e => by omega) (fun hk1 => ?_) tm kv vv cv⟩⟩⟩
        obtain ⟨g1, g2⟩ := H.get hk1
        rcases g2 with g2 | ⟨x1, x2, x3⟩
        · exact Or.inl g2
        · rw [hpn] at x3
          have hlv : (t.nd p).lv = 0 := by rw [(h.leaf R.pg hgo).1]; exact hl0
          exact Or.inr ⟨by omega, by omega⟩
      · have P : ScW false gw x t S o 0 a.i d p tx ver := ⟨h, R, hgo, hk⟩
        cases he : scEnd (S a.i) (t.nd p)
        · obtain ⟨a1, a2, a3⟩ := P.rd_more hm he
          exact ⟨_, _, _, _, _, _, a1, Or.inl ⟨_, t, o, m, rfl, hm, a3, fun tm f hf => ⟨a2 tm f _ hf, H.on h (o' := o) (s' := { scS (S a.i) (t.nd p) with pg := (t.nd p).lk, step := (S a.i).step + 1 }) ⟨⟨fun _ hp => Or.inl hp, fun _ ha => Or.inl ha⟩, Or.inl ⟨rfl, rfl, rfl, rfl⟩⟩ (fun _ => hsp) (fun e => absurd hsw e) (fun hk1 => by omega) tm f⟩⟩⟩
        · obtain ⟨a1, a2⟩ := P.rd_end he
          exact ⟨_, _, _, _, _, _, a1, Or.inr ⟨t, o, _, _, _, _, _, _, _, rfl, fun tm kv vv cv => ⟨a2 tm kv vv cv _, H.fin h (o' := o) ⟨rfl, Or.inl rfl, Or.inl ⟨rfl, Or.inl (L.ok.lv0 (by omega)), Or.inl rfl⟩⟩ rfF hspF (fun e => absurd e (by decide)) (fun e => absurd e (by decide)) (fun e => by have := L.ok.lv0 (by omega); omega) (fun _ e => by omega) (fun hk1 => by omega) tm kv vv cv⟩⟩⟩
      · by_cases hno : lmap (t.nd p) d.key = none
        · obtain ⟨a1, a2⟩ := h.rd_miss R hgo hk hno
          exact ⟨_, _, _, _, _, _, a1, Or.inr ⟨t, _, _, _, _, _, _, _, _, rfl, fun tm kv vv cv => ⟨a2 tm kv vv cv _, H.fin h (o' := o ++ [⟨x.now, d.k, d.key, d.v⟩]) ⟨rfl, Or.inl rfl, Or.inl ⟨rfl, Or.inl (L.ok.lv0 (by omega)), Or.inr ⟨by rw [← L.kd]; exact hk, rfl⟩⟩⟩ rfF hspF (fun e => absurd e (by decide)) (fun e => absurd e (by decide)) (fun e => by have := L.ok.lv0 (by omega); omega) (fun _ e => by omega) (fun hk1 => by omega) tm kv vv cv⟩⟩⟩
        · have hl0 := L.ok.lv0 (by omega)
          obtain ⟨a1, a2, a3⟩ := h.rd_see (m := m) R hgo (Or.inr ⟨hk, hno⟩) (fun e => by have := e.2; omega)
          refine ⟨_, _, _, _, _, _, a1, Or.inl ⟨_, t, o, m, rfl, hm, a3, fun tm f hf => ⟨a2 tm f _ hf, H.on h (o' := o) (s' := { seeS (S a.i) tx ver with step := (S a.i).step + 1 }) ⟨⟨fun _ hp => Or.inl hp, fun _ ha => Or.inl ha⟩, Or.inl ⟨rfl, rfl, rfl, rfl⟩⟩ (fun e => absurd e (unp_ne R.un)) (fun _ => ⟨?_, ?_⟩) (fun hk1 => by omega) tm f⟩⟩⟩
          · show x.V[(S a.i).pg.toNat]? = some ver
            rw [hpn]; exact R.V
          · show ((S a.i).sp.length : Int) = (S a.i).laid
            rw [hsp, (L.ok.laidRd hsw).2]; rfl
      · by_cases hl9 : crwB (t.nd p) (S a.i) = true ∧ (S a.i).lv = 9
        · exact absurd (by rw [(h.leaf R.pg hgo).1]; exact hl9.2) (no_nine h.inv.tok H.X.ct R.inn)
        · obtain ⟨a1, a2, a3⟩ := h.rd_see (m := m) R hgo (Or.inl hk) hl9
          refine ⟨_, _, _, _, _, _, a1, Or.inl ⟨_, t, o, m, rfl, hm, a3, fun tm f hf => ⟨a2 tm f _ hf, H.on h (o' := o) (s' := { seeS (S a.i) tx ver with step := (S a.i).step + 1 }) ⟨⟨fun _ hp => Or.inl hp, fun _ ha => Or.inl ha⟩, Or.inl ⟨rfl, rfl, rfl, rfl⟩⟩ (fun e => absurd e (unp_ne R.un)) (fun _ => ⟨?_, ?_⟩) (fun hk1 => by omega) tm f⟩⟩⟩
          · show x.V[(S a.i).pg.toNat]? = some ver
            rw [hpn]; exact R.V
          · show ((S a.i).sp.length : Int) = (S a.i).laid
            rw [hsp, (L.ok.laidRd hsw).2]; rfl
  · obtain ⟨n, W⟩ := L.wr hsw
    obtain ⟨hV, hsl⟩ := H.wr hsw
    have hk1 : d.k ≠ 1 := by have := W.pl.kd; omega
    by_cases h1 : (S a.i).laid = pgsN n (S a.i)
    · obtain ⟨p, rfl, P⟩ := h.swP hsw W h1 hV
      obtain ⟨t', N, A⟩ := P.turn
      by_cases hp : pgsN (t.nd p) (S a.i) = 1
      · obtain ⟨m', hm1, hm2⟩ := rank_ex t' A.tu.ok
        obtain ⟨a1, a2, a3⟩ := P.enter A (m := m) (m' := m') ⟨hm1, hm2⟩ hp
        refine ⟨_, _, _, _, _, _, a1, Or.inl ⟨_, t', _, m', rfl, ⟨hm1, hm2⟩, a3, fun tm f hf => ⟨a2 tm f _ hf, H.on h (o' := if (S a.i).lv = 0 then o ++ [⟨x.now, d.k, d.key, d.v⟩] else o) (s' := enS (t.nd p) (S a.i)) ⟨⟨fun _ hp => Or.inl hp, fun b hb => ?_⟩, Or.inr ⟨p, N, A, P.cgAt, P.W.pl.lv, hp, rfl, rfl⟩⟩ (fun _ => ?_) (fun e => absurd rfl e) (fun e => absurd e hk1) tm f⟩⟩⟩
        · obtain ⟨-, -, rr, hr1, ⟨cc, c1, c2, -⟩, -⟩ := A.en hp
          obtain ⟨k, hk⟩ := mem_sp hb
          cases k with
          | zero =>
            rw [hr1] at hk
            have e := Option.some.inj hk
            exact Or.inr ⟨cc, by rw [← e]; exact c1, c2⟩
          | succ k =>
            refine Or.inl (List.mem_iff_getElem?.2 ⟨k, ?_⟩)
            show ((S a.i).sp.drop 1)[k]? = some b
            rw [List.getElem?_drop, Nat.add_comm]; exact hk
        · show (S a.i).sp.drop 1 = []
          refine List.drop_eq_nil_of_le ?_
          omega
      · have hsp : d.rf = true ∨ ∀ b ∈ (S a.i).sp, ∃ q : Nat, b = (q : Int) ∧ t'.inn q := Or.inr fun b hb => by
          have hb2 := pgsN_le (t.nd p) (S a.i)
          have hlen : 0 < (S a.i).sp.length := List.length_pos_of_mem hb
          rcases A.sh with ⟨hc, -⟩ | ⟨-, hp0, -⟩ | ⟨-, hp0, -, l, r, hl, hr, l1, r1, hlr, ht⟩
          · have : ¬ 0 < pgsN (t.nd p) (S a.i) := fun e => by have := hb2.2.2.1.1 e; rw [hc] at this; cases this
            omega
          · have := hb2.2.2.2 (hb2.2.2.1.1 (by omega))
            rw [if_neg (by have := P.pg; omega)] at this
            exact absurd this hp
          · have il : t'.inn l := by rw [ht]; exact Or.inl (Or.inr rfl)
            have ir : t'.inn r := by rw [ht]; exact Or.inr rfl
            have ml : (l : Int) ∈ (S a.i).sp := by
              rcases A.tu.new l il with e | e
              · exact absurd e hl
              · exact (A.nw l _ e).2.1
            have mr : (r : Int) ∈ (S a.i).sp := by
              rcases A.tu.new r ir with e | e
              · exact absurd e hr
              · exact (A.nw r _ e).2.1
            have hle := L.ok.sp2
            have hlr2 : (l : Int) ≠ (r : Int) := fun e => hlr (by omega)
            match hs : (S a.i).sp, hb, ml, mr, hle with
            | [u], hb, ml, mr, _ =>
              rw [List.mem_singleton] at ml mr
              exact absurd (ml.trans mr.symm) hlr2
            | [u, v], hb, ml, mr, _ =>
              simp only [List.mem_cons, List.not_mem_nil, or_false] at hb ml mr
              have : b = (l : Int) ∨ b = (r : Int) := by omega
              rcases this with e | e
              · exact ⟨l, e, il⟩
              · exact ⟨r, e, ir⟩
            | u :: v :: w :: z, hb, ml, mr, hle => simp at hle
        by_cases hl : (S a.i).lv = 0
        · obtain ⟨a1, a2, -⟩ := P.end0 A hp hl
          refine ⟨_, _, _, _, _, _, a1, Or.inr ⟨t', _, _, _, _, _, _, _, _, rfl, fun tm kv vv cv => ⟨a2 tm kv vv cv _, H.fin h (o' := o ++ [⟨x.now, d.k, d.key, d.v⟩]) ⟨rfl, Or.inl rfl, Or.inr ⟨p, N, A, P.cgAt, P.W.pl.lv, P.pg, hp, (if_pos hl).symm⟩⟩ rfF hsp (fun e => absurd e (by decide)) (fun e => absurd e (by decide)) (fun e => by omega) (fun e _ => ?_) (fun e => absurd e hk1) tm kv vv cv⟩⟩⟩
          rw [P.pn]
          cases hlm : lmap (t.nd p) d.key with
          | none => rw [hlm] at e; cases e
          | some v => exact (List.of_mem_zip (mem_look hlm)).1
        · obtain ⟨a1, a2⟩ := P.endN A hp (by have := L.ok.lvb; omega)
          exact ⟨_, _, _, _, _, _, a1, Or.inr ⟨t', _, _, _, _, _, _, _, _, rfl, fun tm kv vv cv => ⟨a2 tm kv vv cv _, H.fin h (o' := o) ⟨rfl, Or.inl rfl, Or.inr ⟨p, N, A, P.cgAt, P.W.pl.lv, P.pg, hp, (if_neg hl).symm⟩⟩ rfF hsp (fun e => absurd e (by decide)) (fun e => absurd e (by decide)) (fun _ => ⟨rfl, rfl⟩) (fun e => by cases e) (fun e => absurd e hk1) tm kv vv cv⟩⟩⟩
    · have h2 : ¬ (S a.i).laid < (S a.i).sp.length := by omega
      rcases free_or x.U with hU | ⟨g, hg, hU⟩
      · rw [h.inv.ul] at hU
        have hI := H.full h hU
        have hcr : crwB n (S a.i) = true := (pgsN_le n (S a.i)).2.2.1.1 (by have := W.pl.laid; have := L.ok.laid0; omega)
        have hk2 : d.k = 2 := by rw [← L.kd]; exact (crowd_len (chi_of L.ok W.pl.un.1 W.pl.lv W.pl.kd W.pl.w2) hcr).2.2.2
        rcases h.wr_full hsw W h1 h2 hU with ⟨hl, a1, a2⟩ | ⟨hl, a1, a2⟩
        · exact ⟨_, _, _, _, _, _, a1, Or.inr ⟨t, o, _, _, _, _, _, _, _, rfl, fun tm kv vv cv => ⟨a2 tm kv vv cv _, H.fin h (o' := o) ⟨rfl, Or.inr ⟨rfl, hk2, rfl⟩, Or.inl ⟨rfl, Or.inr (Or.inl rfl), Or.inl rfl⟩⟩ (fun _ => hI) (Or.inl rfl) (fun _ => rfl) (fun _ => rfl) (fun e => by omega) (fun e => by cases e) (fun e => absurd e hk1) tm kv vv cv⟩⟩⟩
        · exact ⟨_, _, _, _, _, _, a1, Or.inr ⟨t, o, _, _, _, _, _, _, _, rfl, fun tm kv vv cv => ⟨a2 tm kv vv cv _, H.fin h (o' := o) ⟨rfl, Or.inl rfl, Or.inl ⟨rfl, Or.inr (Or.inl rfl), Or.inl rfl⟩⟩ (fun _ => hI) (Or.inl rfl) (fun _ => rfl) (fun e => absurd e (by decide)) (fun _ => ⟨rfl, rfl⟩) (fun e => by cases e) (fun e => absurd e hk1) tm kv vv cv⟩⟩⟩
      · obtain ⟨a1, a2, a3⟩ := h.wr_fresh (m := m) hsw W h1 h2 hg hU
        refine ⟨_, _, _, _, _, _, a1, Or.inl ⟨_, t, o, m, rfl, hm, a3, fun tm f hf => ⟨a2 tm f _ hf, H.on h (o' := o) (s' := frsS (S a.i) g) ⟨⟨fun p hp => ?_, fun b hb => Or.inl (List.mem_append.2 (Or.inl hb))⟩, Or.inl ⟨rfl, rfl, rfl, rfl⟩⟩ (fun e => absurd e hsw) (fun _ => ⟨?_, ?_⟩) (fun e => absurd e hk1) tm f⟩⟩⟩
        · rcases set_some hp with ⟨e, -⟩ | ⟨-, e⟩
          · exact Or.inr (List.mem_append.2 (Or.inr (by rw [e]; simp)))
          · exact Or.inl e
        · have hne : g ≠ (S a.i).pg.toNat := fun e => by
            have := (h.inv.say _ L.way.inn).2.1
            rw [← e, hg] at this; cases this
          show (x.V.set g 0)[(S a.i).pg.toNat]? = some (S a.i).ver
          rw [List.getElem?_set_ne hne]; exact hV
        · show (((S a.i).sp ++ [(g : Int)]).length : Int) = (S a.i).laid + 1
          rw [List.length_append, List.length_singleton]
          omega
structure Rest (gw : Nat) (x : Wd) (t : Tre) (S : Nat → St) (o : List Dn) (I : Nat) : Prop where
  inv : Inv false gw x t S o
  X : Xtr x t S
  idle : ∀ c, c < 64 → x.bs[c]? = some (-1)
  use : x.rf = false → ∀ p : Nat, x.U[p]? = some true → t.inn p
  pot : Pot t (3 * I + 3)
  rf : x.rf = true → 61 ≤ I
def Rest.sta (x : Wd) (t : Tre) (I : Nat) : Sta := ⟨x.ds.length, x.now, x.rf, (t.nd 0).lv, I, x.ds⟩
theorem Rest.begin {gw : Nat} {x : Wd} {t : Tre} {S : Nat → St} {o : List Dn} {I : Nat} (H : Rest gw x t S o I) {k key v : Int} (ho : opR k key v = true) (gd kg kc : Nat) (f : ByteArray) (dv : Value) : Solo (Rest.sta x t I) ({ x with dv := dv, bs := x.bs.set 0 x.ds.length, puts := pu k x.puts, ds := x.ds ++ [Dd.new gd kg kc k key v f] } : Wd) t (upS S x.ds.length (bgS k key v)) (Dd.new gd kg kc k key v f) := by
  have upeq : upS S (Rest.sta x t I).i (bgS k key v) (Rest.sta x t I).i = bgS k key v := if_pos rfl
  have hop := opR_parts ho
  refine ⟨H.X.begun _ _ _ rfl rfl, fun j hj => List.getElem?_append_left hj, ?_, fun c hc h0 => ?_, fun τ hτ => (by cases hτ), Int.le_refl _, fun _ => ?_, fun e => absurd ?_ e, fun hr p hp => Or.inl (H.use hr p hp), ⟨_, H.pot, fun _ => Nat.le_refl _, fun e => ?_⟩, H.rf, rfl, fun hk => ⟨rfl, ?_⟩⟩
  · show (x.ds ++ [_]).length = _; rw [List.length_append, List.length_singleton]; rfl
  · show (x.bs.set 0 (x.ds.length : Int))[c]? = some (-1)
    rw [List.getElem?_set_ne (Ne.symm h0)]; exact H.idle c hc
  · show (upS S (Rest.sta x t I).i (bgS k key v) (Rest.sta x t I).i).sp = []
    rw [upeq]; rfl
  · show (upS S (Rest.sta x t I).i (bgS k key v) (Rest.sta x t I).i).sw = _
    rw [upeq]; rfl
  · replace e : 0 < (upS S (Rest.sta x t I).i (bgS k key v) (Rest.sta x t I).i).lv := e
    rw [upeq] at e
    exact absurd e (by show ¬ (0 : Int) < 0; omega)
  · rcases H.X.quiet H.inv H.idle with h1 | h1
    · exact Or.inl h1
    · refine Or.inr ⟨h1, ?_, ?_⟩
      · show key < (t.nd (upS S (Rest.sta x t I).i (bgS k key v) (Rest.sta x t I).i).pg.toNat).hi
        rw [upeq]
        show key < (t.nd 0).hi
        rw [H.inv.tok.h0]; omega
      · show ((0 : Nat) : Int) + (t.nd (upS S (Rest.sta x t I).i (bgS k key v) (Rest.sta x t I).i).pg.toNat).lv = (t.nd 0).lv
        rw [upeq]
        show ((0 : Nat) : Int) + (t.nd 0).lv = (t.nd 0).lv
        omega
theorem rest_first (gw tg tc ug uc vg vc bg bc : Nat) : Rest gw (Wd.first gw tg tc ug uc vg vc bg bc) Tre.one (fun _ => bgS 1 1 0) [] 0 := by
  have F := FulX.first gw tg tc ug uc vg vc bg bc (fun _ => bgS 1 1 0)
  obtain ⟨B, hB, hb⟩ := F.pot
  refine ⟨inv_first gw tg tc ug uc vg vc bg bc, Xtr.first _ _, fun c hc => ?_, fun _ p hp => ?_, hB.mono ?_, fun e => by cases e⟩
  · show (List.replicate 64 (-1 : Int))[c]? = _; rw [List.getElem?_replicate, if_pos hc]
  · rcases F.use p hp with h1 | ⟨i, d, h1, -⟩
    · exact h1
    · cases h1
  · have : cnt2 [] = 0 := rfl
    omega
theorem SoloE.rest {gw : Nat} {a : Sta} {x : Wd} {t : Tre} {S : Nat → St} {o : List Dn} {d : Dd} (E : SoloE a x t S d) (h : Inv false gw x t S o) : Rest gw x t S o (a.I + if d.k = 2 ∧ d.er = 0 ∧ d.fd = false then 1 else 0) :=
  ⟨h, E.X, E.idle, E.use, E.pot, fun e => by have := E.rf e; omega⟩
theorem SoloE.order {gw : Nat} {x0 x : Wd} {t0 t : Tre} {S0 S : Nat → St} {o0 o : List Dn} {I : Nat} {d : Dd} (R : Rest gw x0 t0 S0 o0 I) (E : SoloE (Rest.sta x0 t0 I) x t S d) (h : Inv false gw x t S o) :
    o = o0 ++ (tkD d).toList ∧ (tkD d = none → ∀ τ ∈ d.ts, ahead o τ = o0) ∧ ahead o d.at = o0 := by
  have hds : x.ds = x0.ds ++ [d] := by
    refine List.ext_getElem? fun j => ?_
    rcases Nat.lt_trichotomy j x0.ds.length with hj | hj | hj
    · rw [List.getElem?_append_left hj]; exact E.old j hj
    · rw [hj, List.getElem?_append_right (Nat.le_refl _), Nat.sub_self]; exact E.own
    · rw [List.getElem?_eq_none (by rw [E.len]; show x0.ds.length + 1 ≤ j; omega), List.getElem?_eq_none (by rw [List.length_append, List.length_singleton]; omega)]
  have hE := (h.allEnded E.idle _ d E.own)
  have hEd := hE.2.ed hE.1
  obtain ⟨p, hp, hp2⟩ := hEd.p
  have hat : d.at ∈ d.ts := ts_mem ⟨by omega, by omega⟩
  have hnow : x0.now ≤ d.at := E.tm _ hat
  have htk : tkL x.ds = tkL x0.ds ++ (tkD d).toList := by
    rw [hds]
    unfold tkL
    rw [List.filterMap_append]
    congr 1
  have hpm : (o0 ++ (tkD d).toList).Perm (tkL x.ds) := by
    rw [htk]
    refine List.Perm.append_right _ ?_
    rw [← R.inv.effs_all R.idle]; exact R.inv.op
  have het : ∀ e ∈ (tkD d).toList, e.t = d.at := fun e he => by
    unfold tkD at he
    split at he
    · simp at he; rw [he]; rfl
    · cases he
  have hsrt : Srt (o0 ++ (tkD d).toList) := by
    unfold Srt
    rw [List.pairwise_append]
    refine ⟨R.inv.os.imp fun h => by omega, ?_, fun a ha b hb => ?_⟩
    · cases tkD d with
      | none => exact List.Pairwise.nil
      | some e => show List.Pairwise _ [e]; simp
    · have := R.inv.ot a ha
      rw [het b hb]; omega
  have ho : o = o0 ++ (tkD d).toList := (h.uniq E.idle hpm hsrt).symm
  have all : ∀ τ, x0.now ≤ τ → ahead o0 τ = o0 := fun τ hτ => ahead_all o0 τ fun e he => by have := R.inv.ot e he; omega
  refine ⟨ho, fun hn τ hτ => ?_, ?_⟩
  · rw [ho, hn]
    show ahead (o0 ++ []) τ = o0
    rw [List.append_nil]
    exact all τ (E.tm τ hτ)
  · rw [ho]
    cases he : tkD d with
    | none => show ahead (o0 ++ []) _ = o0; rw [List.append_nil]; exact all _ hnow
    | some e =>
      show ahead (o0 ++ [e]) _ = o0
      rw [ahead_snoc o0 e _ (by have := het e (by rw [he]; simp); omega)]
      exact all _ hnow
theorem SoloE.answer {gw : Nat} {x0 x : Wd} {t0 t : Tre} {S0 S : Nat → St} {o0 o : List Dn} {I : Nat} {d : Dd} (R : Rest gw x0 t0 S0 o0 I) (E : SoloE (Rest.sta x0 t0 I) x t S d) (h : Inv false gw x t S o) (hk : d.k ≠ 4) :
    (d.er = 4 ∧ d.k = 2 ∧ 61 ≤ I) ∨ (d.er = 0 ∧ d.fd = (mapO o0 d.key).isSome ∧ d.va = (mapO o0 d.key).getD 0) := by
  have hE := (h.allEnded E.idle _ d E.own)
  have hEd := hE.2.ed hE.1
  obtain ⟨-, -, h3⟩ := E.order R h
  rcases hEd.an with ⟨h1, -⟩ | ⟨-, -, -, -, h1⟩
  · exact absurd h1 hk
  · rw [h3] at h1
    rcases h1 with ⟨h4, h5, -⟩ | h4
    · exact Or.inl ⟨h4, h5, E.rf (E.er h4)⟩
    · exact Or.inr h4
end Go.Proofs.YtajobgmnmbnhiaaGreatDoor.Sap
