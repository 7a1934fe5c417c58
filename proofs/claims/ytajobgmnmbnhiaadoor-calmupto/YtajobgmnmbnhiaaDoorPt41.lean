/- WHAT IS PROVED HERE: what each access that reads makes of the world: what holds at any time (Inv) holds behind it (no program's function is walked). Conditions: none but those named at each theorem. -/
import Derived.Test.YtajobgmnmbnhiaaDoorPt39
namespace Go.Proofs.YtajobgmnmbnhiaaDoor.Sap
open Go.RowKit
def Dd.go (d : Dd) (now : Int) (tm : Value) (f : ByteArray) (kns : List Int) (rf : Bool) : Dd := { d with tm := tm, f := f, ts := d.ts ++ [now], kns := kns, rf := rf }
def Dd.fin (d : Dd) (now : Int) (kns : List Int) (rf : Bool) (er : Int) (fd : Bool) (va pt : Int) (ks vs : List Int) (cs : List (Int × Int)) (tm kv vv cv : Value) : Dd :=
  { d with tm := tm, f := ⟨#[]⟩, ts := d.ts ++ [now], kns := kns, rf := rf, en := true, er := er, fd := fd, va := va, pt := pt, kv := kv, vv := vv, cv := cv, ks := ks, vs := vs, cs := cs }
structure RkOk (t : Tre) (m : Nat → Nat) : Prop where
  le : ∀ p, m p ≤ 64
  lt : ∀ p q, t.inn q → Nearer t q p → m q < m p
def rnk (m : Nat → Nat) (V : List Int) (s : St) : Nat :=
  if s.sw.size = 0 then m s.pg.toNat + 4 + 70 * (9 - s.lv).toNat
  else (2 - s.laid).toNat + 1 + (if V[s.pg.toNat]? = some s.ver then 70 * (9 - s.lv).toNat else m s.pg.toNat + 4 + 70 * (9 - s.lv).toNat)
theorem sz0 {b : ByteArray} (h : b.size = 0) : b = ⟨#[]⟩ := by
  cases b with
  | mk a =>
    have : a = #[] := Array.eq_empty_of_size_eq_zero h
    rw [this]
theorem rnk_rd {m : Nat → Nat} {V : List Int} {s : St} (h : s.sw = ⟨#[]⟩) : rnk m V s = m s.pg.toNat + 4 + 70 * (9 - s.lv).toNat := by
  unfold rnk; rw [h]; exact if_pos rfl
theorem rnk_wr {m : Nat → Nat} {V : List Int} {s : St} (h : s.sw ≠ ⟨#[]⟩) : rnk m V s = (2 - s.laid).toNat + 1 + (if V[s.pg.toNat]? = some s.ver then 70 * (9 - s.lv).toNat else m s.pg.toNat + 4 + 70 * (9 - s.lv).toNat) := by
  unfold rnk; rw [if_neg (fun e => h (sz0 e))]
structure Mov (wt : Bool) (gw : Nat) (x : Wd) (t : Tre) (S : Nat → St) (o : List Dn) (c i : Nat) (d : Dd) : Prop where
  inv : Inv wt gw x t S o
  cl : c < 64
  bs : x.bs[c]? = some (i : Int)
  ds : x.ds[i]? = some d
  en : d.en = false
  now : x.now ≤ 90000000
theorem Mov.live {wt : Bool} {gw : Nat} {x : Wd} {t : Tre} {S : Nat → St} {o : List Dn} {c i : Nat} {d : Dd} (h : Mov wt gw x t S o c i d) : Live t x.T x.U x.V o (S i) d := (h.inv.ds i d h.ds).lv h.en
theorem Mov.step {wt : Bool} {gw : Nat} {x : Wd} {t : Tre} {S : Nat → St} {o : List Dn} {c i : Nat} {d : Dd} (h : Mov wt gw x t S o c i d) : 0 ≤ (S i).step ∧ (S i).step ≤ 90000000 := by
  have h1 := h.live.step
  have h2 := (h.inv.ds i d h.ds).nt
  have h3 := h.now
  omega
theorem Mov.all {wt : Bool} {gw : Nat} {x : Wd} {t : Tre} {S : Nat → St} {o : List Dn} {c i : Nat} {d : Dd} (h : Mov wt gw x t S o c i d) : ahead o x.now = o := ahead_all o x.now h.inv.ot
theorem Mov.chg0 {wt : Bool} {gw : Nat} {x : Wd} {t : Tre} {S : Nat → St} {o : List Dn} {c i : Nat} {d : Dd} (h : Mov wt gw x t S o c i d) : Chg x.now t t (S i) x.T x.T x.U x.U x.V x.V o :=
  Chg.none h.inv.tok h.inv.tl h.inv.ul h.inv.vl h.inv.say h.inv.us h.inv.vb h.inv.lf
theorem Mov.page {wt : Bool} {gw : Nat} {x : Wd} {t : Tre} {S : Nat → St} {o : List Dn} {c i : Nat} {d : Dd} (h : Mov wt gw x t S o c i d) : ∃ (p : Nat) (tx : ByteArray) (ver : Int), (S i).pg = (p : Int) ∧ p < 64 ∧ (S i).pg.toNat = p ∧ t.inn p ∧ x.U[p]? = some true ∧ x.T[p]? = some tx ∧ x.V[p]? = some ver ∧ Unp tx.data.toList (t.nd p) ∧ 0 ≤ ver ∧ ver ≤ x.now := by
  obtain ⟨p, h1, h2, h3⟩ := h.live.ok.pgN
  have hw := h.live.way.inn
  rw [h3] at hw
  obtain ⟨-, hU, tx, hT, hu⟩ := h.inv.say p hw
  have hV : x.V[p]? = some (x.V[p]'(by rw [h.inv.vl]; exact h2)) := List.getElem?_eq_getElem _
  exact ⟨p, tx, _, h1, h2, h3, hw, hU, hT, hV, hu, (h.inv.vb p _ hV).1, (h.inv.vb p _ hV).2⟩
theorem Mov.rdAt {wt : Bool} {gw : Nat} {x : Wd} {t : Tre} {S : Nat → St} {o : List Dn} {c i : Nat} {d : Dd} (h : Mov wt gw x t S o c i d) (hsw : (S i).sw = ⟨#[]⟩) {p : Nat} {tx : ByteArray} {ver : Int} (h1 : (S i).pg = (p : Int)) (h2 : p < 64) (hU : x.U[p]? = some true) (hT : x.T[p]? = some tx) (hV : x.V[p]? = some ver) (hu : Unp tx.data.toList (t.nd p)) (hv : 0 ≤ ver) : RdAt (S i) d.f (t.nd p) tx ver p x.T x.U x.V :=
  ⟨h.live.f, h.live.ok, hsw, h1, h2, hU, hT, hV, hu, by have := h.step; omega, hv⟩
theorem SprOk.kns {t : Tre} {U : List Bool} {V kns : List Int} {s s' : St} {p : Nat} (h : SprOk t U V kns s) (hp : t.inn p) (v : Int) (e1 : s'.sp = s.sp) (e2 : s'.sv = s.sv) : SprOk t U V (kns.set p v) s' := by
  refine ⟨by rw [e1]; exact h.nd, fun j a hj => ?_⟩
  rw [e1] at hj
  rw [e2]
  obtain ⟨q, h1, h2, h3, h4, h5, u, h6, h7, h8⟩ := h.ok j a hj
  exact ⟨q, h1, h2, h3, h4, h5, u, h6, h7, by rw [List.getElem?_set_ne (show p ≠ q from fun e => h4 (e ▸ hp))]; exact h8⟩
theorem StOk.on {s : St} (h : StOk s) {q : Int} (hq : 0 ≤ q ∧ q ≤ 63) (hs : s.step ≤ 1000000000) : StOk { s with pg := q, step := s.step + 1 } :=
  ⟨h.op, h.val, by have := h.step; unfold Fr at this ⊢; simp only; omega, hq, h.keys, h.vals, h.pts, h.kl, h.kl12, h.bl, h.bl64, h.bel, h.seen, h.ver, h.laid, h.lv, h.low, h.ch, h.pt, h.swL, h.sw, h.sp, h.sv, h.spk, h.spl, h.sp2, h.laidL, by
    rcases h.ent with h1 | h1
    · exact Or.inl h1
    · exact Or.inr ⟨h1.1, h1.2.1, h1.2.2.1, by show s.pt < s.step + 1; omega, h1.2.2.2.2⟩⟩
theorem StOk.want {s : St} (h : StOk s) : 1 ≤ wantV s ∧ wantV s ≤ 9999 ∧ (s.kd = 4 → wantV s ≤ s.val) := by
  have hr := h.rng
  unfold wantV
  rcases h.ent with h1 | h1
  · rw [if_neg (by omega)]
    cases hb : s.bel.getLast? with
    | none =>
      refine ⟨hr.2.2.1, hr.2.2.2, fun hk => ?_⟩
      have := h.op
      simp only [opR, Bool.and_eq_true, Bool.or_eq_true, decide_eq_true_eq] at this
      show s.key ≤ s.val
      omega
    | some b =>
      have h2 := keysOk_all _ _ _ h.bel b (List.mem_of_getLast? hb)
      have := h.op
      simp only [opR, Bool.and_eq_true, Bool.or_eq_true, decide_eq_true_eq] at this
      have h4 : s.kd = 4 := by
        rcases h.seen with h3 | h3
        · exact h3
        · rw [h3.2.2.1] at hb; cases hb
      show 1 ≤ b ∧ b ≤ 9999 ∧ _
      refine ⟨by omega, by omega, fun _ => by show b ≤ s.val; omega⟩
  · rw [if_pos (by omega)]
    exact ⟨by omega, by omega, fun hk => by omega⟩
theorem StOk.lv0 {s : St} (h : StOk s) (hk : s.kd ≠ 2) : s.lv = 0 := by
  rcases h.ent with h1 | h1
  · exact h1.1
  · exact absurd h1.2.2.1 hk
theorem StOk.lvb {s : St} (h : StOk s) : 0 ≤ s.lv ∧ s.lv ≤ 9 := by
  rcases h.ent with h1 | h1 <;> omega
theorem StOk.wkey {s : St} (h : StOk s) (hl : s.lv = 0) (hk : s.kd ≠ 4) : wantV s = s.key := by
  unfold wantV
  rw [if_neg (by omega)]
  rcases h.seen with h1 | h1
  · exact absurd h1 hk
  · rw [h1.2.2.1]; rfl
theorem eff_live {s s' : St} {d d' : Dd} {now : Int} {o : List Dn} (h0 : d.en = false) (h1 : d'.en = false) (hl : s'.lv = s.lv) (hp : s'.pt = s.pt) (hts : d'.ts = d.ts ++ [now]) (hop : d'.k = d.k ∧ d'.key = d.key ∧ d'.v = d.v) (hpt : 0 < s.lv → 0 ≤ s.pt ∧ s.pt < d.ts.length) : Took s s' d d' now o o := by
  refine Or.inl ⟨?_, rfl⟩
  unfold effD
  rw [h0, h1, hl, hp, hop.1, hop.2.1, hop.2.2, hts]
  split
  · rename_i h; cases h
  · split
    · rename_i h2; rw [ts_more (hpt h2)]
    · rfl
theorem Mov.rd_on {wt : Bool} {gw : Nat} {x : Wd} {t : Tre} {S : Nat → St} {o : List Dn} {c i : Nat} {d : Dd} (h : Mov wt gw x t S o c i d) {m : Nat → Nat} (hm : RkOk t m) (hsw : (S i).sw = ⟨#[]⟩) {p : Nat} {tx : ByteArray} {ver : Int} (h1 : (S i).pg = (p : Int)) (h2 : p < 64) (hp : t.inn p) (hU : x.U[p]? = some true) (hT : x.T[p]? = some tx) (hV : x.V[p]? = some ver) (hu : Unp tx.data.toList (t.nd p)) (hv : 0 ≤ ver) (hgo : rdGo (S i) (t.nd p)) :
    Moves (S i).kd d.f x.T x.U x.V d.kns d.rf x.T x.U x.V (d.kns.set p ver) d.rf (.on { S i with pg := onwV (t.nd p) (wantV (S i)), step := (S i).step + 1 }) ∧
    (∀ tm f rf', f.data.toList = frT { S i with pg := onwV (t.nd p) (wantV (S i)), step := (S i).step + 1 } → Inv wt gw { x with now := x.now + 1, rf := rf', ds := x.ds.set i (d.go x.now tm f (d.kns.set p ver) d.rf) } t (upS S i { S i with pg := onwV (t.nd p) (wantV (S i)), step := (S i).step + 1 }) o) ∧
    rnk m x.V { S i with pg := onwV (t.nd p) (wantV (S i)), step := (S i).step + 1 } < rnk m x.V (S i) := by
  have L := h.live
  have hst := h.step
  have hD := h.inv.ds i d h.ds
  have hpn : (S i).pg.toNat = p := by omega
  have hw := L.way
  rw [hpn] at hw
  have hwb := L.ok.want
  obtain ⟨q, q1, q2, q3, q4⟩ := hw.onw h.inv.tok L.ok.lvb.1 hwb.2.1 hgo
  have hok : StOk { S i with pg := onwV (t.nd p) (wantV (S i)), step := (S i).step + 1 } := L.ok.on (by rw [q1]; omega) (by omega)
  have ha : ∀ τ ∈ d.ts, ahead o τ = ahead o τ := fun _ _ => rfl
  refine ⟨mv_on (h.rdAt hsw h1 h2 hU hT hV hu hv) _ _ hgo (by rw [q1]; omega) hok, fun tm f rf' hf => ?_, ?_⟩
  · refine h.inv.step h.cl h.bs h.ds h.en h.chg0 ⟨rfl, rfl, rfl⟩ rfl (by show (d.kns.set p ver).length = 64; rw [List.length_set]; exact hD.kl) (eff_live h.en h.en rfl rfl rfl ⟨rfl, rfl, rfl⟩ fun h0 => (L.ent h0).pt) (fun a ha => Or.inl ha) (Or.inl ⟨h.en, rfl, ?_⟩)
    refine ⟨L.live, hok, hf, L.kd, L.key, L.val, ?_, L.spr.kns hp ver rfl rfl, fun h0 => ?_, ?_, fun e => absurd hsw e, fun hk => ?_⟩
    · show (S i).step + 1 = ((d.ts ++ [x.now]).length : Int)
      rw [List.length_append, List.length_singleton, L.step]; rfl
    · have e := ent_mono (d' := d.go x.now tm f (d.kns.set p ver) d.rf) (Grows.refl t) L.ok h0 (L.ent h0) rfl (Or.inr ⟨x.now, rfl⟩) ha
      exact ⟨e.ch, e.pt, e.no⟩
    · show Way t (onwV (t.nd p) (wantV (S i))).toNat (S i).lv (wantV (S i))
      rw [q1, Int.toNat_natCast]; exact q2
    · have hs := L.sc hk
      exact ⟨hs.1.mono x.now ha, hs.2⟩
  · rw [rnk_rd hsw, rnk_rd (show ({ S i with pg := onwV (t.nd p) (wantV (S i)), step := (S i).step + 1 } : St).sw = _ from hsw)]
    show m (onwV (t.nd p) (wantV (S i))).toNat + 4 + 70 * (9 - (S i).lv).toNat < _
    rw [q1, Int.toNat_natCast, hpn]
    have := hm.lt p q q2.inn q4
    omega
theorem fnd_lmap {n : Nd} (hr : rightB n = true) (q : Int) : fndB n.ks q n.ks.length = (lmap n q).isSome ∧ fndV n.ks n.vs q n.ks.length = (lmap n q).getD 0 := by
  have hb := right_bd n hr
  have := fnd_look n.ks n.vs q (right_pw n hr) hb.2.2.2.1 n.ks.length (Nat.le_refl _)
  rw [List.take_of_length_le (by simp; omega)] at this
  exact this
theorem Mov.leaf {wt : Bool} {gw : Nat} {x : Wd} {t : Tre} {S : Nat → St} {o : List Dn} {c i : Nat} {d : Dd} (h : Mov wt gw x t S o c i d) {p : Nat} (h1 : (S i).pg = (p : Int)) (hgo : ¬ rdGo (S i) (t.nd p)) : (t.nd p).lv = (S i).lv ∧ wantV (S i) < (t.nd p).hi ∧ t.low p ≤ wantV (S i) ∧ ((S i).lv = 0 → ∀ q, t.low p ≤ q → q < (t.nd p).hi → lmap (t.nd p) q = mapO o q) := by
  have hw := h.live.way
  rw [show (S i).pg.toNat = p by omega] at hw
  unfold rdGo at hgo
  have := hw.lv
  exact ⟨by omega, by omega, hw.lo, fun h0 q q1 q2 => h.inv.lf p hw.inn (by omega) q q1 q2⟩
theorem at_end (d : Dd) (now : Int) (kns : List Int) (rf : Bool) (er : Int) (fd : Bool) (va pt : Int) (ks vs : List Int) (cs : List (Int × Int)) (tm kv vv cv : Value) (hp : pt = d.ts.length) : (d.fin now kns rf er fd va pt ks vs cs tm kv vv cv).at = now := by
  show (d.ts ++ [now])[pt.toNat]?.getD 0 = now
  rw [hp, Int.toNat_natCast]; exact at_now _ _
theorem Mov.rd_get {wt : Bool} {gw : Nat} {x : Wd} {t : Tre} {S : Nat → St} {o : List Dn} {c i : Nat} {d : Dd} (h : Mov wt gw x t S o c i d) (hsw : (S i).sw = ⟨#[]⟩) {p : Nat} {tx : ByteArray} {ver : Int} (h1 : (S i).pg = (p : Int)) (h2 : p < 64) (hU : x.U[p]? = some true) (hT : x.T[p]? = some tx) (hV : x.V[p]? = some ver) (hu : Unp tx.data.toList (t.nd p)) (hv : 0 ≤ ver) (hgo : ¬ rdGo (S i) (t.nd p)) (hk : (S i).kd = 1) :
    Moves (S i).kd d.f x.T x.U x.V d.kns d.rf x.T x.U x.V (d.kns.set p ver) d.rf (.fin 0 (lmap (t.nd p) d.key).isSome ((lmap (t.nd p) d.key).getD 0) d.ts.length [] [] []) ∧
    ∀ tm kv vv cv rf', Inv wt gw { x with bs := x.bs.set c (-1), now := x.now + 1, rf := rf', ds := x.ds.set i (d.fin x.now (d.kns.set p ver) d.rf 0 (lmap (t.nd p) d.key).isSome ((lmap (t.nd p) d.key).getD 0) d.ts.length [] [] [] tm kv vv cv) } t (upS S i (S i)) o := by
  have L := h.live
  have hD := h.inv.ds i d h.ds
  obtain ⟨k1, k2, k3, k4⟩ := h.leaf h1 hgo
  have hl0 := L.ok.lv0 (by omega)
  have hwk := L.ok.wkey hl0 (by omega)
  have hf := fnd_lmap hu.1 (S i).key
  have hkd : d.k = 1 := by rw [← L.kd]; exact hk
  refine ⟨?_, fun tm kv vv cv rf' => ?_⟩
  · have := mv_get (h.rdAt hsw h1 h2 hU hT hV hu hv) d.kns d.rf hgo hk
    rw [hf.1, hf.2, L.step, L.key] at this
    exact this
  · refine h.inv.step h.cl h.bs h.ds h.en h.chg0 ⟨rfl, rfl, rfl⟩ rfl (by show (d.kns.set p ver).length = 64; rw [List.length_set]; exact hD.kl) (Or.inl ⟨?_, rfl⟩) (fun a ha => Or.inl ha) (Or.inr ⟨rfl, rfl, ?_⟩)
    · unfold effD
      rw [h.en, hl0]
      show tkD _ = none
      unfold tkD
      rw [if_neg]
      show ¬ ((d.k = 2 ∨ d.k = 3) ∧ _)
      omega
    · refine ⟨⟨d.ts.length, rfl, by show d.ts.length < (d.ts ++ [x.now]).length; simp⟩, Or.inr ⟨by show d.k ≠ 4; omega, rfl, rfl, rfl, Or.inr ⟨rfl, ?_, ?_⟩⟩⟩
      · rw [at_end _ _ _ _ _ _ _ _ _ _ _ _ _ _ _ rfl, h.all]
        show (lmap (t.nd p) d.key).isSome = (mapO o d.key).isSome
        rw [k4 hl0 d.key (by rw [← L.key, ← hwk]; exact k3) (by rw [← L.key, ← hwk]; exact k2)]
      · rw [at_end _ _ _ _ _ _ _ _ _ _ _ _ _ _ _ rfl, h.all]
        show (lmap (t.nd p) d.key).getD 0 = (mapO o d.key).getD 0
        rw [k4 hl0 d.key (by rw [← L.key, ← hwk]; exact k3) (by rw [← L.key, ← hwk]; exact k2)]
structure RdPg (x : Wd) (t : Tre) (s : St) (p : Nat) (tx : ByteArray) (ver : Int) : Prop where
  sw : s.sw = ⟨#[]⟩
  pg : s.pg = (p : Int)
  p64 : p < 64
  inn : t.inn p
  U : x.U[p]? = some true
  T : x.T[p]? = some tx
  V : x.V[p]? = some ver
  un : Unp tx.data.toList (t.nd p)
  v0 : 0 ≤ ver
  v1 : ver ≤ x.now
theorem Mov.rdPg {wt : Bool} {gw : Nat} {x : Wd} {t : Tre} {S : Nat → St} {o : List Dn} {c i : Nat} {d : Dd} (h : Mov wt gw x t S o c i d) (hsw : (S i).sw = ⟨#[]⟩) : ∃ p tx ver, RdPg x t (S i) p tx ver := by
  obtain ⟨p, tx, ver, h1, h2, -, h3, h4, h5, h6, h7, h8, h9⟩ := h.page
  exact ⟨p, tx, ver, hsw, h1, h2, h3, h4, h5, h6, h7, h8, h9⟩
theorem Mov.at_ {wt : Bool} {gw : Nat} {x : Wd} {t : Tre} {S : Nat → St} {o : List Dn} {c i : Nat} {d : Dd} (h : Mov wt gw x t S o c i d) {p : Nat} {tx : ByteArray} {ver : Int} (R : RdPg x t (S i) p tx ver) : RdAt (S i) d.f (t.nd p) tx ver p x.T x.U x.V := h.rdAt R.sw R.pg R.p64 R.U R.T R.V R.un R.v0
theorem Mov.rd_miss {wt : Bool} {gw : Nat} {x : Wd} {t : Tre} {S : Nat → St} {o : List Dn} {c i : Nat} {d : Dd} (h : Mov wt gw x t S o c i d) {p : Nat} {tx : ByteArray} {ver : Int} (R : RdPg x t (S i) p tx ver) (hgo : ¬ rdGo (S i) (t.nd p)) (hk : (S i).kd = 3) (hno : lmap (t.nd p) d.key = none) :
    Moves (S i).kd d.f x.T x.U x.V d.kns d.rf x.T x.U x.V (d.kns.set p ver) d.rf (.fin 0 false 0 d.ts.length [] [] []) ∧
    ∀ tm kv vv cv rf', Inv wt gw { x with bs := x.bs.set c (-1), now := x.now + 1, rf := rf', ds := x.ds.set i (d.fin x.now (d.kns.set p ver) d.rf 0 false 0 d.ts.length [] [] [] tm kv vv cv) } t (upS S i (S i)) (o ++ [⟨x.now, d.k, d.key, d.v⟩]) := by
  have L := h.live
  have hD := h.inv.ds i d h.ds
  obtain ⟨k1, k2, k3, k4⟩ := h.leaf R.pg hgo
  have hl0 := L.ok.lv0 (by omega)
  have hwk := L.ok.wkey hl0 (by omega)
  have hf := fnd_lmap R.un.1 (S i).key
  have hkd : d.k = 3 := by rw [← L.kd]; exact hk
  have hmk : mapO o d.key = none := by rw [← k4 hl0 d.key (by rw [← L.key, ← hwk]; exact k3) (by rw [← L.key, ← hwk]; exact k2)]; exact hno
  have hmq : mapO (o ++ [⟨x.now, d.k, d.key, d.v⟩]) = mapO o := by
    rw [mapO_snoc]
    funext q
    unfold upd
    split
    · rename_i e
      rw [e, hkd, hmk]; rfl
    · rfl
  have hT : Took (S i) (S i) d (d.fin x.now (d.kns.set p ver) d.rf 0 false 0 d.ts.length [] [] [] (.int .i64 0) (.int .i64 0) (.int .i64 0) (.int .i64 0)) x.now o (o ++ [⟨x.now, d.k, d.key, d.v⟩]) := by
    refine Or.inr ⟨by unfold effD; rw [h.en, hl0]; rfl, _, ?_, rfl, rfl, Or.inr hkd⟩
    show tkD _ = _
    unfold tkD
    rw [if_pos ⟨Or.inr hkd, rfl⟩]
    show some (⟨(d.ts ++ [x.now])[((d.ts.length : Nat) : Int).toNat]?.getD 0, d.k, d.key, d.v⟩ : Dn) = _
    rw [Int.toNat_natCast, at_now]
  refine ⟨?_, fun tm kv vv cv rf' => ?_⟩
  · have := mv_miss (h.at_ R) d.kns d.rf hgo hk (by rw [hf.1, L.key, hno]; rfl)
    rw [hf.2, L.step, L.key, hno] at this
    exact this
  · have C := h.chg0
    refine h.inv.step h.cl h.bs h.ds h.en ⟨C.ok, C.gr, C.tl, C.ul, C.vl, C.say, C.us, C.vb, by rw [hmq]; exact C.lf, C.uu, C.q, C.new⟩ ⟨rfl, rfl, rfl⟩ rfl (by show (d.kns.set p ver).length = 64; rw [List.length_set]; exact hD.kl) hT (fun a ha => Or.inl ha) (Or.inr ⟨rfl, rfl, ?_⟩)
    refine ⟨⟨d.ts.length, rfl, by show d.ts.length < (d.ts ++ [x.now]).length; simp⟩, Or.inr ⟨by show d.k ≠ 4; omega, rfl, rfl, rfl, Or.inr ⟨rfl, ?_, ?_⟩⟩⟩
    · rw [at_end _ _ _ _ _ _ _ _ _ _ _ _ _ _ _ rfl, hT.aheadN h.inv.ot]
      show false = (mapO o d.key).isSome
      rw [hmk]; rfl
    · rw [at_end _ _ _ _ _ _ _ _ _ _ _ _ _ _ _ rfl, hT.aheadN h.inv.ot]
      show 0 = (mapO o d.key).getD 0
      rw [hmk]; rfl
theorem nodup_le (n : Nat) : ∀ l : List Nat, l.Nodup → (∀ a ∈ l, a < n) → l.length ≤ n := by
  induction n with
  | zero =>
    intro l _ h
    cases l with
    | nil => exact Nat.le_refl _
    | cons a r => have := h a (by simp); omega
  | succ n ih =>
    intro l hn h
    have h1 := ih (l.erase n) (hn.erase n) fun a ha => by
      have h2 := (hn.mem_erase_iff).1 ha
      have := h a h2.2
      have := h2.1
      omega
    rw [List.length_erase] at h1
    split at h1 <;> omega
theorem lows_le {t : Tre} (ht : t.Ok) {bel : List Int} (hp : bel.Pairwise (· < ·)) (h : ∀ b ∈ bel, ∃ q, t.inn q ∧ q ≠ 0 ∧ (t.nd q).lv = 0 ∧ t.low q = b) : bel.length ≤ 63 := by
  have hf : ∃ f : Int → Nat, ∀ b ∈ bel, t.inn (f b) ∧ f b ≠ 0 ∧ t.low (f b) = b := by
    classical
    refine ⟨fun b => if hb : b ∈ bel then (h b hb).choose else 0, fun b hb => ?_⟩
    have := (h b hb).choose_spec
    simp only [hb, dif_pos]
    exact ⟨this.1, this.2.1, this.2.2.2⟩
  obtain ⟨f, hf⟩ := hf
  have h1 := nodup_le 63 (bel.map fun b => f b - 1) ?_ ?_
  · rw [List.length_map] at h1; exact h1
  · refine List.pairwise_map.2 (List.Pairwise.imp_of_mem (fun ha hb hab e => ?_) hp)
    rename_i a b
    have h2 := hf a ha
    have h3 := hf b hb
    have h4 : f a = f b := by have := h2.2.1; have := h3.2.1; omega
    rw [h4, h3.2.2] at h2
    omega
  · intro a ha
    obtain ⟨b, hb, rfl⟩ := List.mem_map.1 ha
    have h2 := hf b hb
    have := ht.lt _ h2.1
    have := h2.2.1
    omega
theorem Scn.belP {o : List Dn} {ts : List Int} {key val : Int} {keys vals bel pts : List Int} (h : Scn o ts key val keys vals bel pts) : bel.Pairwise (· < ·) := by
  rw [List.pairwise_iff_getElem]
  intro a b ha hb hab
  have hup : ∀ d j, j + d ≤ bel.length → fromV bel key j ≤ fromV bel key (j + d) := fun d => by
    induction d with
    | zero => intro j _; exact Int.le_refl _
    | succ d ih => intro j hj; have := ih j (by omega); have := (h.bp (j + d) (by omega)).1; rw [← Nat.add_assoc]; omega
  have h1 := hup (b - (a + 1)) (a + 1) (by omega)
  rw [show a + 1 + (b - (a + 1)) = b by omega] at h1
  have h2 := (h.bp b hb).1
  have e1 : fromV bel key (a + 1) = bel[a] := by show bel[a]?.getD 0 = _; rw [List.getElem?_eq_getElem ha]; rfl
  have e2 : fromV bel key (b + 1) = bel[b] := by show bel[b]?.getD 0 = _; rw [List.getElem?_eq_getElem hb]; rfl
  omega
theorem scO_end {s : St} {n : Nd} (h : scEnd s n = true) : (scO s n).res = .fin 0 (decide (0 < (scK s n).length)) (scK s n).length s.step (scK s n) (scV s n) ((s.bel ++ [scB s n]).zip (s.pts ++ [s.step])) := by
  unfold scO; rw [if_pos h]; rfl
theorem scO_on {s : St} {n : Nd} (h : scEnd s n = false) : (scO s n).res = .on { scS s n with pg := n.lk, step := s.step + 1 } := by
  unfold scO; rw [if_neg (by rw [h]; decide)]; rfl
structure ScW (wt : Bool) (gw : Nat) (x : Wd) (t : Tre) (S : Nat → St) (o : List Dn) (c i : Nat) (d : Dd) (p : Nat) (tx : ByteArray) (ver : Int) : Prop where
  mv : Mov wt gw x t S o c i d
  R : RdPg x t (S i) p tx ver
  go : ¬ rdGo (S i) (t.nd p)
  k : (S i).kd = 4
theorem ScW.facts {wt : Bool} {gw : Nat} {x : Wd} {t : Tre} {S : Nat → St} {o : List Dn} {c i : Nat} {d : Dd} {p : Nat} {tx : ByteArray} {ver : Int} (h : ScW wt gw x t S o c i d p tx ver) : (S i).lv = 0 ∧ d.k = 4 ∧ (S i).val = d.v ∧ (S i).bel.length ≤ 63 ∧ (∀ q ∈ (S i).keys, 0 ≤ q ∧ q ≤ 10000) ∧ (S i).sp = [] ∧ (S i).sv = [] ∧
    Scn o (d.ts ++ [x.now]) d.key d.v (scK (S i) (t.nd p)) (scV (S i) (t.nd p)) ((S i).bel ++ [scB (S i) (t.nd p)]) ((S i).pts ++ [(S i).step]) := by
  have L := h.mv.live
  have hk := h.k
  have hl0 := L.ok.lv0 (by omega)
  have hkd : d.k = 4 := by rw [← L.kd]; exact hk
  have hval : (S i).val = d.v := by rw [L.val]; unfold valS; rw [if_neg (by omega)]
  obtain ⟨k1, k2, k3, k4⟩ := h.mv.leaf h.R.pg h.go
  obtain ⟨s1, s2⟩ := L.sc hk
  have hw := L.ok.want
  have hsp : (S i).sp = [] := by rcases L.ok.spk with h1 | h1; omega; exact h1
  have M := s1.more h.R.un.1 hl0 L.ok.kl12 (hw.2.2 hk) k2 k3 (k4 hl0) L.step (fun _ _ => rfl) h.mv.all
  rw [L.key, hval] at M
  refine ⟨hl0, hkd, hval, lows_le h.mv.inv.tok s1.belP s2, fun q hq => ?_, hsp, ?_, M⟩
  · have h1 := s1.inn q hq
    rw [← want_from hl0] at h1
    have := L.ok.rng
    omega
  · have := L.ok.spl; rw [hsp] at this; exact List.eq_nil_of_length_eq_zero this.symm
theorem ScW.rd_end {wt : Bool} {gw : Nat} {x : Wd} {t : Tre} {S : Nat → St} {o : List Dn} {c i : Nat} {d : Dd} {p : Nat} {tx : ByteArray} {ver : Int} (h : ScW wt gw x t S o c i d p tx ver) (he : scEnd (S i) (t.nd p) = true) :
    Moves (S i).kd d.f x.T x.U x.V d.kns d.rf x.T x.U x.V (d.kns.set p ver) d.rf (.fin 0 (decide (0 < (scK (S i) (t.nd p)).length)) (scK (S i) (t.nd p)).length d.ts.length (scK (S i) (t.nd p)) (scV (S i) (t.nd p)) (((S i).bel ++ [scB (S i) (t.nd p)]).zip ((S i).pts ++ [(S i).step]))) ∧
    ∀ tm kv vv cv rf', Inv wt gw { x with bs := x.bs.set c (-1), now := x.now + 1, rf := rf', ds := x.ds.set i (d.fin x.now (d.kns.set p ver) d.rf 0 (decide (0 < (scK (S i) (t.nd p)).length)) (scK (S i) (t.nd p)).length d.ts.length (scK (S i) (t.nd p)) (scV (S i) (t.nd p)) (((S i).bel ++ [scB (S i) (t.nd p)]).zip ((S i).pts ++ [(S i).step])) tm kv vv cv) } t (upS S i (S i)) o := by
  have L := h.mv.live
  have hD := h.mv.inv.ds i d h.mv.ds
  obtain ⟨f1, f2, f3, f4, f5, f6, f7, f8⟩ := h.facts
  have hk := h.k
  refine ⟨?_, fun tm kv vv cv rf' => ?_⟩
  · have := mv_scan (h.mv.at_ h.R) d.kns d.rf h.go h.k f4 f5 (fun e => by rw [he] at e; cases e)
    rw [scO_end he] at this
    have e : ∀ a b c' g, Res.fin 0 a b (S i).step c' g (((S i).bel ++ [scB (S i) (t.nd p)]).zip ((S i).pts ++ [(S i).step])) = Res.fin 0 a b d.ts.length c' g (((S i).bel ++ [scB (S i) (t.nd p)]).zip ((S i).pts ++ [(S i).step])) := fun a b c' g => by
      show Res.fin 0 a b (S i).step c' g _ = Res.fin 0 a b ((d.ts.length : Nat) : Int) c' g _
      rw [← L.step]
    rw [e] at this
    exact this
  · refine h.mv.inv.step h.mv.cl h.mv.bs h.mv.ds h.mv.en h.mv.chg0 ⟨rfl, rfl, rfl⟩ rfl (by show (d.kns.set p ver).length = 64; rw [List.length_set]; exact hD.kl) (Or.inl ⟨?_, rfl⟩) (fun a ha => Or.inl ha) (Or.inr ⟨rfl, rfl, ?_⟩)
    · unfold effD
      rw [h.mv.en, f1]
      show tkD _ = none
      unfold tkD
      rw [if_neg]
      show ¬ ((d.k = 2 ∨ d.k = 3) ∧ _)
      omega
    · refine ⟨⟨d.ts.length, rfl, by show d.ts.length < (d.ts ++ [x.now]).length; simp⟩, Or.inl ⟨f2, (S i).bel ++ [scB (S i) (t.nd p)], (S i).pts ++ [(S i).step], rfl, rfl, rfl, rfl, f8, by simp, by rw [List.length_append, List.length_singleton]; omega, ?_, adK_len _ _ _ _ _ (by have := L.ok.kl12; omega), ?_⟩⟩
      · show ((S i).pts ++ [(S i).step]).getLast? = some ((d.ts.length : Nat) : Int)
        rw [List.getLast?_append, ← L.step]; rfl
      · show ((scK (S i) (t.nd p)).length = 12 ∧ fromV ((S i).bel ++ [scB (S i) (t.nd p)]) d.key ((S i).bel ++ [scB (S i) (t.nd p)]).length = (scK (S i) (t.nd p)).getLast?.getD 0 + 1) ∨ ((scK (S i) (t.nd p)).length < 12 ∧ fromV ((S i).bel ++ [scB (S i) (t.nd p)]) d.key ((S i).bel ++ [scB (S i) (t.nd p)]).length = d.v + 1)
        rw [List.length_append, List.length_singleton, from_last]
        have h12 : (scK (S i) (t.nd p)).length ≤ 12 := adK_len _ _ _ _ _ (by have := L.ok.kl12; omega)
        unfold scEnd at he
        rw [Bool.or_eq_true, decide_eq_true_eq, decide_eq_true_eq] at he
        by_cases hf : 12 ≤ (scK (S i) (t.nd p)).length
        · refine Or.inl ⟨by omega, ?_⟩
          unfold scB; rw [if_pos hf]
        · refine Or.inr ⟨by omega, ?_⟩
          rcases he with he | he
          · exact absurd he hf
          · rw [he, f3]
theorem ScW.rd_more {wt : Bool} {gw : Nat} {x : Wd} {t : Tre} {S : Nat → St} {o : List Dn} {c i : Nat} {d : Dd} {p : Nat} {tx : ByteArray} {ver : Int} (h : ScW wt gw x t S o c i d p tx ver) {m : Nat → Nat} (hm : RkOk t m) (he : scEnd (S i) (t.nd p) = false) :
    Moves (S i).kd d.f x.T x.U x.V d.kns d.rf x.T x.U x.V (d.kns.set p ver) d.rf (.on { scS (S i) (t.nd p) with pg := (t.nd p).lk, step := (S i).step + 1 }) ∧
    (∀ tm f rf', f.data.toList = frT { scS (S i) (t.nd p) with pg := (t.nd p).lk, step := (S i).step + 1 } → Inv wt gw { x with now := x.now + 1, rf := rf', ds := x.ds.set i (d.go x.now tm f (d.kns.set p ver) d.rf) } t (upS S i { scS (S i) (t.nd p) with pg := (t.nd p).lk, step := (S i).step + 1 }) o) ∧
    rnk m x.V { scS (S i) (t.nd p) with pg := (t.nd p).lk, step := (S i).step + 1 } < rnk m x.V (S i) := by
  have L := h.mv.live
  have hst := h.mv.step
  have hD := h.mv.inv.ds i d h.mv.ds
  obtain ⟨f1, f2, f3, f4, f5, f6, f7, f8⟩ := h.facts
  have hk := h.k
  obtain ⟨k1, k2, k3, k4⟩ := h.mv.leaf h.R.pg h.go
  have hw := L.ok.want
  have hop := L.ok.op
  simp only [opR, Bool.and_eq_true, Bool.or_eq_true, decide_eq_true_eq] at hop
  have hpn : (S i).pg.toNat = p := by have := h.R.pg; omega
  have hwy := L.way
  rw [hpn] at hwy
  obtain ⟨z1, z2, z3, z4, z5⟩ := sc_zip h.R.un.1 L.ok.kl L.ok.kl12 (hw.2.2 hk) k2
  unfold scEnd at he
  rw [Bool.or_eq_false_iff, decide_eq_false_iff_not, decide_eq_false_iff_not] at he
  have hB : scB (S i) (t.nd p) = (t.nd p).hi := by
    have h1 : scB (S i) (t.nd p) = if (S i).val + 1 < (t.nd p).hi then (S i).val + 1 else (t.nd p).hi := by unfold scB; rw [if_neg he.1]
    rw [h1]
    split
    · rename_i h2; rw [if_pos h2] at h1; exact absurd h1 he.2
    · rfl
  have hhi : (t.nd p).hi ≤ 9999 := by have := he.2; omega
  obtain ⟨q, q1, q2, q3, q4⟩ := h.mv.inv.tok.lnk p h.R.inn (by omega)
  have q64 := h.mv.inv.tok.lt q q2
  have hq0 : q ≠ 0 := fun e => by subst e; rw [h.mv.inv.tok.l0] at q3; omega
  have hz : scEnd (S i) (t.nd p) = false := by unfold scEnd; rw [Bool.or_eq_false_iff, decide_eq_false_iff_not, decide_eq_false_iff_not]; exact he
  have hbelK : keysOk ((S i).val + 1) ((S i).key + 1) ((S i).bel ++ [scB (S i) (t.nd p)]) = true := by
    refine keysOk_mk _ _ _ f8.belP fun b hb => ?_
    rcases List.mem_append.1 hb with hb | hb
    · exact keysOk_all _ _ _ L.ok.bel b hb
    · rw [List.mem_singleton] at hb
      have hge : (S i).key ≤ wantV (S i) := by
        rw [want_from f1]
        cases hbl : (S i).bel.length with
        | zero => exact Int.le_refl _
        | succ j =>
          have hj : j < (S i).bel.length := by omega
          show (S i).key ≤ (S i).bel[j]?.getD 0
          rw [List.getElem?_eq_getElem hj]
          have := keysOk_all _ _ _ L.ok.bel _ (List.getElem_mem hj)
          show (S i).key ≤ (S i).bel[j]
          omega
      have := he.2
      omega
  have hfr : ∀ {a : Int}, 0 ≤ a ∧ a ≤ 10000 → Fr a := fun {a} h => ⟨h.1, by omega⟩
  have hent : ∀ e ∈ ent (t.nd p), (0 ≤ e.1 ∧ e.1 ≤ 10000) ∧ (0 ≤ e.2 ∧ e.2 ≤ 10000) := fun e he2 => by
    have h1 := ent_key he2
    have h2 := right_kb _ h.R.un.1 e.1 h1.1
    have h3 := (right_bd _ h.R.un.1).2.2.2.2.2.2.2 e.2 h1.2
    rw [show (t.nd p).lv = 0 by omega] at h3
    have h4 : (10 : Nat) ^ vw 0 = 10000 := rfl
    rw [h4] at h3
    omega
  have hmemZ : ∀ e ∈ (scK (S i) (t.nd p)).zip (scV (S i) (t.nd p)), Fr e.1 ∧ Fr e.2 := fun e he2 => by
    rw [z2] at he2
    rcases List.mem_append.1 he2 with h1 | h1
    · exact ⟨L.ok.keys _ (List.of_mem_zip h1).1, L.ok.vals _ (List.of_mem_zip h1).2⟩
    · have := hent e (List.mem_filter.1 h1).1
      exact ⟨hfr this.1, hfr this.2⟩
  have hok : StOk { scS (S i) (t.nd p) with pg := (t.nd p).lk, step := (S i).step + 1 } := by
    have h0 := L.ok
    refine ⟨h0.op, h0.val, by have := h0.step; unfold Fr at this ⊢; simp only; omega, by show 0 ≤ (t.nd p).lk ∧ (t.nd p).lk ≤ 63; omega, fun a ha => ?_, fun a ha => ?_, fun a ha => ?_, z1, by have := he.1; show (scK (S i) (t.nd p)).length < 12; omega, by show ((S i).bel ++ [_]).length = ((S i).pts ++ [_]).length; rw [List.length_append, List.length_append, h0.bl]; rfl, by show ((S i).bel ++ [_]).length ≤ 64; rw [List.length_append, List.length_singleton]; omega, hbelK, Or.inl hk, h0.ver, h0.laid, h0.lv, h0.low, h0.ch, h0.pt, h0.swL, h0.sw, h0.sp, h0.sv, h0.spk, h0.spl, h0.sp2, h0.laidL, ?_⟩
    · replace ha : a ∈ scK (S i) (t.nd p) := ha
      obtain ⟨j, hj, rfl⟩ := List.mem_iff_getElem.1 ha
      exact (hmemZ ((scK (S i) (t.nd p))[j], (scV (S i) (t.nd p))[j]'(by rw [← z1]; exact hj)) (List.mem_iff_getElem.2 ⟨j, by rw [List.length_zip]; omega, by simp⟩)).1
    · obtain ⟨b, hb⟩ := zip_val z1 ha
      exact (hmemZ _ hb).2
    · rcases List.mem_append.1 ha with h1 | h1
      · exact h0.pts a h1
      · rw [List.mem_singleton] at h1; rw [h1]; exact h0.step
    · rcases h0.ent with h1 | h1
      · exact Or.inl h1
      · omega
  refine ⟨?_, fun tm f rf' hf => ?_, ?_⟩
  · have := mv_scan (h.mv.at_ h.R) d.kns d.rf h.go h.k f4 f5 (fun _ => ⟨by omega, hok⟩)
    rw [scO_on hz] at this
    exact this
  · refine h.mv.inv.step h.mv.cl h.mv.bs h.mv.ds h.mv.en h.mv.chg0 ⟨rfl, rfl, rfl⟩ rfl (by show (d.kns.set p ver).length = 64; rw [List.length_set]; exact hD.kl) (eff_live h.mv.en h.mv.en rfl rfl rfl ⟨rfl, rfl, rfl⟩ fun h0 => (L.ent h0).pt) (fun a ha => Or.inl ha) (Or.inl ⟨h.mv.en, rfl, ?_⟩)
    refine ⟨L.live, hok, hf, L.kd, L.key, L.val, ?_, L.spr.kns h.R.inn ver rfl rfl, fun h0 => ?_, ?_, fun e => absurd h.R.sw e, fun _ => ⟨?_, fun b hb => ?_⟩⟩
    · show (S i).step + 1 = ((d.ts ++ [x.now]).length : Int)
      rw [List.length_append, List.length_singleton, L.step]; rfl
    · have h1 : 0 < (S i).lv := h0
      omega
    · show Way t (t.nd p).lk.toNat (S i).lv (wantV { scS (S i) (t.nd p) with pg := (t.nd p).lk, step := (S i).step + 1 })
      have hwv : wantV { scS (S i) (t.nd p) with pg := (t.nd p).lk, step := (S i).step + 1 } = (t.nd p).hi := by
        show (if 0 < (S i).lv then (S i).low else ((S i).bel ++ [scB (S i) (t.nd p)]).getLast?.getD (S i).key) = _
        rw [if_neg (by omega), List.getLast?_append, hB]; rfl
      rw [hwv, q1, Int.toNat_natCast]
      exact ⟨q2, by omega, by omega⟩
    · show Scn o (d.ts ++ [x.now]) (S i).key (S i).val (scK (S i) (t.nd p)) (scV (S i) (t.nd p)) ((S i).bel ++ [scB (S i) (t.nd p)]) ((S i).pts ++ [(S i).step])
      rw [L.key, f3]; exact f8
    · replace hb : b ∈ (S i).bel ++ [scB (S i) (t.nd p)] := hb
      rcases List.mem_append.1 hb with h1 | h1
      · exact (L.sc hk).2 b h1
      · rw [List.mem_singleton] at h1
        exact ⟨q, q2, hq0, by omega, by omega⟩
  · rw [rnk_rd h.R.sw, rnk_rd (show ({ scS (S i) (t.nd p) with pg := (t.nd p).lk, step := (S i).step + 1 } : St).sw = _ from h.R.sw)]
    show m (t.nd p).lk.toNat + 4 + 70 * (9 - (S i).lv).toNat < _
    rw [q1, Int.toNat_natCast, hpn]
    have := hm.lt p q q2 (Or.inr ⟨q4, by rw [q3]; exact (h.mv.inv.tok.lo p h.R.inn).2⟩)
    omega
theorem chi_of {n : Nd} {s : St} (hs : StOk s) (hr : rightB n = true) (hl : n.lv = s.lv) (hk : s.kd = 2 ∨ s.kd = 3) (hw : wantV s < n.hi) : ChI n s.kd (wantV s) (entV s) := by
  refine ⟨hr, hk, hs.want.1, hw, fun h0 h2 => ?_, fun h0 => ?_⟩
  · have h3 : entV s = s.val := by unfold entV; rw [if_neg (by omega)]
    rw [h3]
    have := hs.op
    simp only [opR, Bool.and_eq_true, Bool.or_eq_true, decide_eq_true_eq] at this
    omega
  · have h3 : entV s = s.ch := by unfold entV; rw [if_pos (by omega)]
    rw [h3]
    rcases hs.ent with h1 | h1
    · omega
    · exact ⟨h1.2.2.1, h1.2.2.2.2.2.2⟩
theorem halves_of {n : Nd} {s : St} (h : ChI n s.kd (wantV s) (entV s)) (hc : crwB n s = true) : Halves n s.kd (wantV s) (entV s) (lowV n s) := by
  have h1 := crowd_len h hc
  have hlen : (chgN n s).ks.length = 6 ∨ (chgN n s).ks.length = 7 := by
    by_cases h0 : n.lv = 0
    · exact Or.inl (h1.1 h0)
    · exact Or.inr (h1.2.1 h0)
  have hm : midV n s = ((chgN n s).ks.length + 1) / 2 := rfl
  have hlt : midV n s < (chgN n s).ks.length := by omega
  refine ⟨h, hc, midV n s, by omega, ?_⟩
  show (chgN n s).ks[midV n s]? = some (lowV n s)
  unfold lowV
  rw [if_pos hc, List.getElem?_eq_getElem hlt]; rfl
theorem pgsN_le (n : Nd) (s : St) : 0 ≤ pgsN n s ∧ pgsN n s ≤ 2 ∧ (0 < pgsN n s ↔ crwB n s = true) ∧ (crwB n s = true → pgsN n s = if s.pg = 0 then 2 else 1) := by
  unfold pgsN pgsV
  cases hc : crwB n s
  · simp
  · simp only [if_true]
    split <;> simp
theorem StOk.laid0 {s : St} (h : StOk s) : 0 ≤ s.laid ∧ s.laid ≤ 2 := by have := h.laid.1; have := h.laidL; have := h.sp2; omega
theorem StOk.spGet {s : St} (h : StOk s) {j : Nat} (hj : j < s.sp.length) : 1 ≤ s.sp[j]?.getD 0 ∧ s.sp[j]?.getD 0 ≤ 63 := by
  rw [List.getElem?_eq_getElem hj]
  exact h.sp _ (List.getElem_mem hj)
theorem plok_mk {n : Nd} {s : St} (hs : StOk s) (hu : Unp s.sw.data.toList n) (hl : n.lv = s.lv) (hk : s.kd = 2 ∨ s.kd = 3) (hw : wantV s < n.hi) (hlaid : s.laid ≤ pgsN n s) (hl9 : ¬ (crwB n s = true ∧ s.lv = 9)) : PlOk n s := by
  have hwb := hs.want
  have hI := chi_of hs hu.1 hl hk hw
  have hp := pgsN_le n s
  have h0 := hs.laid0
  have h1 := hs.laidL
  have h2 := hs.sp2
  refine ⟨hu, hl, hk, by omega, hwb.2.1, hw, hlaid, fun _ => ?_, ?_⟩
  · omega
  · unfold nxtN
    cases hc : crwB n s
    · exact cg_right hI hc
    · have H := halves_of hI hc
      have h9 : n.lv < 9 := by have := hs.lvb; have : s.lv ≠ 9 := fun e => hl9 ⟨hc, e⟩; omega
      show rightB (pcN (chgN n s) (lowV n s) s) = true
      unfold pcN
      by_cases e0 : s.laid = 0
      · rw [if_pos e0]; exact H.rtR
      · rw [if_neg e0]
        by_cases e1 : s.laid = 1
        · rw [if_pos e1]
          have := hs.spGet (j := 0) (by omega)
          exact H.rtL this.1 this.2
        · rw [if_neg e1]
          have g0 := hs.spGet (j := 0) (by omega)
          have g1 := hs.spGet (j := 1) (by omega)
          exact H.rtT h9 g1.1 g1.2 g0.1 g0.2
theorem unp_ne {t : ByteArray} {n : Nd} (h : Unp t.data.toList n) : t ≠ ⟨#[]⟩ := fun e => by
  have := (unp_size ⟨n, h⟩).1
  rw [e] at this
  exact absurd this (by decide)
theorem see_ok {s : St} {tx : ByteArray} {ver : Int} {n : Nd} (h : StOk s) (hk : s.kd = 2 ∨ s.kd = 3) (hu : Unp tx.data.toList n) (hv : 0 ≤ ver ∧ ver ≤ 1000000000) : StOk (seeS s tx ver) :=
  ⟨h.op, h.val, h.step, h.pg, h.keys, h.vals, h.pts, h.kl, h.kl12, h.bl, h.bl64, h.bel, h.seen, ⟨hv.1, by show ver ≤ _; omega⟩, h.laid, h.lv, h.low, h.ch, h.pt, (unp_size ⟨n, hu⟩).2, Or.inr ⟨unp_ne hu, hk⟩, h.sp, h.sv, h.spk, h.spl, h.sp2, h.laidL, h.ent⟩
theorem StOk.next {s : St} (h : StOk s) (hs : s.step ≤ 1000000000) : StOk { s with step := s.step + 1 } :=
  ⟨h.op, h.val, by have := h.step; unfold Fr at this ⊢; simp only; omega, h.pg, h.keys, h.vals, h.pts, h.kl, h.kl12, h.bl, h.bl64, h.bel, h.seen, h.ver, h.laid, h.lv, h.low, h.ch, h.pt, h.swL, h.sw, h.sp, h.sv, h.spk, h.spl, h.sp2, h.laidL, by
    rcases h.ent with h1 | h1
    · exact Or.inl h1
    · exact Or.inr ⟨h1.1, h1.2.1, h1.2.2.1, by show s.pt < s.step + 1; omega, h1.2.2.2.2⟩⟩
theorem StOk.laidRd {s : St} (h : StOk s) (hsw : s.sw = ⟨#[]⟩) : s.ver = 0 ∧ s.laid = 0 := by
  rcases h.sw with h1 | h1
  · exact h1.2
  · exact absurd hsw h1.1
theorem see_pl {n : Nd} {s : St} {tx : ByteArray} {ver : Int} (h : StOk s) (hsw : s.sw = ⟨#[]⟩) (hk : s.kd = 2 ∨ s.kd = 3) (hu : Unp tx.data.toList n) (hl : n.lv = s.lv) (hw : wantV s < n.hi) (hv : 0 ≤ ver ∧ ver ≤ 1000000000) : PlOk n (seeS s tx ver) := by
  have hs := see_ok h hk hu hv
  have hI : ChI n s.kd (wantV s) (entV s) := chi_of h hu.1 hl hk hw
  have hp := pgsN_le n (seeS s tx ver)
  have hl0 := (h.laidRd hsw).2
  have hwb := h.want
  refine ⟨hu, hl, hk, by show 0 ≤ wantV s; omega, hwb.2.1, hw, by show s.laid ≤ _; omega, fun _ => Or.inl hl0, ?_⟩
  unfold nxtN
  cases hc : crwB n (seeS s tx ver)
  · exact cg_right hI hc
  · have H : Halves n s.kd (wantV s) (entV s) (lowV n (seeS s tx ver)) := halves_of (s := seeS s tx ver) hI hc
    show rightB (pcN (chgN n s) (lowV n (seeS s tx ver)) (seeS s tx ver)) = true
    unfold pcN
    rw [if_pos (show (seeS s tx ver).laid = 0 from hl0)]
    exact H.rtR
theorem Mov.rd_see {wt : Bool} {gw : Nat} {x : Wd} {t : Tre} {S : Nat → St} {o : List Dn} {c i : Nat} {d : Dd} (h : Mov wt gw x t S o c i d) {m : Nat → Nat} {p : Nat} {tx : ByteArray} {ver : Int} (R : RdPg x t (S i) p tx ver) (hgo : ¬ rdGo (S i) (t.nd p)) (hk : (S i).kd = 2 ∨ ((S i).kd = 3 ∧ lmap (t.nd p) d.key ≠ none)) (hl9 : ¬ (crwB (t.nd p) (S i) = true ∧ (S i).lv = 9)) :
    Moves (S i).kd d.f x.T x.U x.V d.kns d.rf x.T x.U x.V (d.kns.set p ver) d.rf (.on { seeS (S i) tx ver with step := (S i).step + 1 }) ∧
    (∀ tm f rf', f.data.toList = frT { seeS (S i) tx ver with step := (S i).step + 1 } → Inv wt gw { x with now := x.now + 1, rf := rf', ds := x.ds.set i (d.go x.now tm f (d.kns.set p ver) d.rf) } t (upS S i { seeS (S i) tx ver with step := (S i).step + 1 }) o) ∧
    rnk m x.V { seeS (S i) tx ver with step := (S i).step + 1 } < rnk m x.V (S i) := by
  have L := h.live
  have hst := h.step
  have hnow := h.now
  have hD := h.inv.ds i d h.ds
  obtain ⟨k1, k2, k3, k4⟩ := h.leaf R.pg hgo
  have hk2 : (S i).kd = 2 ∨ (S i).kd = 3 := by rcases hk with h1 | h1; exact Or.inl h1; exact Or.inr h1.1
  have hvb : 0 ≤ ver ∧ ver ≤ 1000000000 := ⟨R.v0, by have := R.v1; omega⟩
  have hso := see_ok L.ok hk2 R.un hvb
  have hsn : StOk { seeS (S i) tx ver with step := (S i).step + 1 } := hso.next (by show (S i).step ≤ _; omega)
  have hpl := see_pl L.ok R.sw hk2 R.un k1 k2 hvb
  have hla := L.ok.laidRd R.sw
  have hpn : (S i).pg.toNat = p := by have := R.pg; omega
  have hkl : p < d.kns.length := by rw [hD.kl]; exact R.p64
  have hf := fnd_lmap R.un.1 (S i).key
  have hpg := pgsN_le (t.nd p) (seeS (S i) tx ver)
  refine ⟨mv_see (h.at_ R) _ _ hgo ?_ hso hpl (fun e => hl9 ⟨hpg.2.2.1.1 e.1, e.2⟩) hsn, fun tm f rf' hf => ?_, ?_⟩
  · rcases hk with h1 | h1
    · exact Or.inl h1
    · refine Or.inr ⟨h1.1, ?_⟩
      rw [hf.1, L.key]
      cases hq : lmap (t.nd p) d.key with
      | none => exact absurd hq h1.2
      | some v => rfl
  · refine h.inv.step h.cl h.bs h.ds h.en h.chg0 ⟨rfl, rfl, rfl⟩ rfl (by show (d.kns.set p ver).length = 64; rw [List.length_set]; exact hD.kl) (eff_live h.en h.en rfl rfl rfl ⟨rfl, rfl, rfl⟩ fun h0 => (L.ent h0).pt) (fun a ha => Or.inl ha) (Or.inl ⟨h.en, rfl, ?_⟩)
    refine ⟨L.live, hsn, hf, L.kd, L.key, L.val, ?_, L.spr.kns R.inn ver rfl rfl, fun h0 => ?_, L.way, fun e => ⟨t.nd p, ?_⟩, fun hk4 => ?_⟩
    · show (S i).step + 1 = ((d.ts ++ [x.now]).length : Int)
      rw [List.length_append, List.length_singleton, L.step]; rfl
    · have e := ent_mono (d' := d.go x.now tm f (d.kns.set p ver) d.rf) (Grows.refl t) L.ok h0 (L.ent h0) rfl (Or.inr ⟨x.now, rfl⟩) (fun _ _ => rfl)
      exact ⟨e.ch, e.pt, e.no⟩
    · refine ⟨⟨hpl.un, hpl.lv, hpl.kd, hpl.w0, hpl.w1, hpl.w2, hpl.laid, hpl.pc, hpl.rt⟩, ?_, ?_, hl9, fun e1 => ?_, fun e1 => ?_⟩
      · show (d.kns.set p ver)[(S i).pg.toNat]? = some ver
        rw [hpn]; exact List.getElem?_set_self hkl
      · show ∃ c, x.V[(S i).pg.toNat]? = some c ∧ 0 ≤ ver ∧ ver ≤ c ∧ (c = ver → x.T[(S i).pg.toNat]? = some tx)
        rw [hpn]; exact ⟨ver, R.V, R.v0, Int.le_refl _, fun _ => R.T⟩
      · have h1 : 1 ≤ (S i).laid := e1
        omega
      · have h1 : (S i).laid = 2 := e1
        omega
    · have h1 : (S i).kd = 4 := hk4
      omega
  · rw [rnk_rd R.sw, rnk_wr (show ({ seeS (S i) tx ver with step := (S i).step + 1 } : St).sw ≠ _ from unp_ne R.un)]
    show (2 - (S i).laid).toNat + 1 + (if x.V[(S i).pg.toNat]? = some ver then 70 * (9 - (S i).lv).toNat else m (S i).pg.toNat + 4 + 70 * (9 - (S i).lv).toNat) < _
    rw [hpn, if_pos R.V, hla.2]
    have e2 : ((2 : Int) - 0).toNat = 2 := rfl
    rw [e2]
    omega
theorem effD_end {s : St} {d : Dd} (h : d.en = true) : effD s d = tkD d := by unfold effD; rw [if_pos h]
theorem effD_lv {s : St} {d : Dd} (h : d.en = false) (hl : 0 < s.lv) : effD s d = some ⟨d.ts[s.pt.toNat]?.getD 0, d.k, d.key, d.v⟩ := by unfold effD; rw [if_neg (by rw [h]; decide), if_pos hl]
theorem effD_no {s : St} {d : Dd} (h : d.en = false) (hl : s.lv = 0) : effD s d = none := by unfold effD; rw [if_neg (by rw [h]; decide), if_neg (by omega)]
theorem fr0 : Fr 0 := ⟨by decide, by decide⟩
theorem Mov.fin_ent {wt : Bool} {gw : Nat} {x : Wd} {t t' : Tre} {S : Nat → St} {o : List Dn} {c i : Nat} {d : Dd} (h : Mov wt gw x t S o c i d) (hl : 0 < (S i).lv) {T' : List ByteArray} {U' : List Bool} {V' kns' : List Int} {rf1 : Bool} (C : Chg x.now t t' (S i) x.T T' x.U U' x.V V' o) (hkl : kns'.length = 64) (tm kv vv cv : Value) (rf' : Bool) :
    Inv wt gw { x with T := T', U := U', V := V', bs := x.bs.set c (-1), now := x.now + 1, rf := rf', ds := x.ds.set i (d.fin x.now kns' rf1 0 false 0 (S i).pt [] [] [] tm kv vv cv) } t' (upS S i (S i)) o := by
  have L := h.live
  have E := L.ent hl
  have hk2 : d.k = 2 := by
    rw [← L.kd]
    rcases L.ok.ent with h1 | h1
    · omega
    · exact h1.2.2.1
  have e1 : (d.ts ++ [x.now])[(S i).pt.toNat]?.getD 0 = d.ts[(S i).pt.toNat]?.getD 0 := ts_more E.pt
  have hat : (d.fin x.now kns' rf1 0 false 0 (S i).pt [] [] [] tm kv vv cv).at = d.ts[(S i).pt.toNat]?.getD 0 := e1
  refine h.inv.step h.cl h.bs h.ds h.en C ⟨rfl, rfl, rfl⟩ rfl hkl (Or.inl ⟨?_, rfl⟩) (fun a ha => Or.inl ha) (Or.inr ⟨rfl, rfl, ?_⟩)
  · refine (effD_end rfl).trans (Eq.trans ?_ (effD_lv h.en hl).symm)
    unfold tkD
    rw [if_pos ⟨Or.inl hk2, rfl⟩]
    show some (⟨(d.ts ++ [x.now])[(S i).pt.toNat]?.getD 0, d.k, d.key, d.v⟩ : Dn) = _
    rw [e1]
  · refine ⟨⟨(S i).pt.toNat, by have := E.pt; show (S i).pt = _; omega, by show (S i).pt.toNat < (d.ts ++ [x.now]).length; have := E.pt; rw [List.length_append]; omega⟩, Or.inr ⟨by show d.k ≠ 4; omega, rfl, rfl, rfl, Or.inr ⟨rfl, ?_, ?_⟩⟩⟩
    · rw [hat]
      show false = (mapO (ahead o (d.ts[(S i).pt.toNat]?.getD 0)) d.key).isSome
      rw [E.no]; rfl
    · rw [hat]
      show 0 = (mapO (ahead o (d.ts[(S i).pt.toNat]?.getD 0)) d.key).getD 0
      rw [E.no]; rfl
theorem Mov.rd_last {wt : Bool} {gw : Nat} {x : Wd} {t : Tre} {S : Nat → St} {o : List Dn} {c i : Nat} {d : Dd} (h : Mov wt gw x t S o c i d) {p : Nat} {tx : ByteArray} {ver : Int} (R : RdPg x t (S i) p tx ver) (hgo : ¬ rdGo (S i) (t.nd p)) (hl9 : crwB (t.nd p) (S i) = true ∧ (S i).lv = 9) :
    Moves (S i).kd d.f x.T x.U x.V d.kns d.rf x.T x.U x.V (d.kns.set p ver) d.rf (.fin 0 false 0 (S i).pt [] [] []) ∧
    ∀ tm kv vv cv rf', Inv wt gw { x with bs := x.bs.set c (-1), now := x.now + 1, rf := rf', ds := x.ds.set i (d.fin x.now (d.kns.set p ver) d.rf 0 false 0 (S i).pt [] [] [] tm kv vv cv) } t (upS S i (S i)) o := by
  have L := h.live
  have hst := h.step
  have hnow := h.now
  have hD := h.inv.ds i d h.ds
  obtain ⟨k1, k2, k3, k4⟩ := h.leaf R.pg hgo
  have hl : 0 < (S i).lv := by rw [hl9.2]; decide
  have hk2 : (S i).kd = 2 := by
    rcases L.ok.ent with h1 | h1
    · omega
    · exact h1.2.2.1
  have hvb : 0 ≤ ver ∧ ver ≤ 1000000000 := ⟨R.v0, by have := R.v1; omega⟩
  have hso := see_ok L.ok (Or.inl hk2) R.un hvb
  have hpl := see_pl L.ok R.sw (Or.inl hk2) R.un k1 k2 hvb
  have hpg := pgsN_le (t.nd p) (seeS (S i) tx ver)
  exact ⟨mv_last (h.at_ R) _ _ hgo hk2 hso hpl ⟨hpg.2.2.1.2 hl9.1, hl9.2⟩, fun tm kv vv cv rf' => h.fin_ent hl h.chg0 (by rw [List.length_set]; exact hD.kl) tm kv vv cv rf'⟩
theorem Mov.wrAt {wt : Bool} {gw : Nat} {x : Wd} {t : Tre} {S : Nat → St} {o : List Dn} {c i : Nat} {d : Dd} (h : Mov wt gw x t S o c i d) (hsw : (S i).sw ≠ ⟨#[]⟩) {n : Nd} (W : Wr x.T x.V d.kns (S i) n) : WrAt (S i) d.f n := ⟨h.live.f, h.live.ok, hsw, W.pl, by have := h.step; omega⟩
theorem Mov.wr_full {wt : Bool} {gw : Nat} {x : Wd} {t : Tre} {S : Nat → St} {o : List Dn} {c i : Nat} {d : Dd} (h : Mov wt gw x t S o c i d) (hsw : (S i).sw ≠ ⟨#[]⟩) {n : Nd} (W : Wr x.T x.V d.kns (S i) n) (h1 : (S i).laid ≠ pgsN n (S i)) (h2 : ¬ (S i).laid < (S i).sp.length) (hU : ∀ k : Nat, k < 64 → x.U[k]? = some true) :
    ((S i).lv = 0 ∧ Moves (S i).kd d.f x.T x.U x.V d.kns d.rf x.T x.U x.V d.kns true (.fin 4 false 0 0 [] [] []) ∧
      ∀ tm kv vv cv rf', Inv wt gw { x with bs := x.bs.set c (-1), now := x.now + 1, rf := rf', ds := x.ds.set i (d.fin x.now d.kns true 4 false 0 0 [] [] [] tm kv vv cv) } t (upS S i (S i)) o) ∨
    (0 < (S i).lv ∧ Moves (S i).kd d.f x.T x.U x.V d.kns d.rf x.T x.U x.V d.kns true (.fin 0 false 0 (S i).pt [] [] []) ∧
      ∀ tm kv vv cv rf', Inv wt gw { x with bs := x.bs.set c (-1), now := x.now + 1, rf := rf', ds := x.ds.set i (d.fin x.now d.kns true 0 false 0 (S i).pt [] [] [] tm kv vv cv) } t (upS S i (S i)) o) := by
  have L := h.live
  have hD := h.inv.ds i d h.ds
  have A := mv_fresh_no (T := x.T) (V := x.V) (h.wrAt hsw W) d.kns d.rf h1 h2 hU
  by_cases hl : (S i).lv = 0
  · refine Or.inl ⟨hl, ?_, fun tm kv vv cv rf' => ?_⟩
    · unfold frsR at A
      rw [if_pos rfl, if_pos hl] at A
      exact A
    · have hcr : crwB n (S i) = true := by
        have := (pgsN_le n (S i)).2.2.1
        refine this.1 ?_
        have := W.pl.laid
        have := L.ok.laid0
        omega
      have hk2 : d.k = 2 := by rw [← L.kd]; exact (crowd_len (chi_of L.ok W.pl.un.1 W.pl.lv W.pl.kd W.pl.w2) hcr).2.2.2
      refine h.inv.step h.cl h.bs h.ds h.en h.chg0 ⟨rfl, rfl, rfl⟩ rfl hD.kl (Or.inl ⟨?_, rfl⟩) (fun a ha => Or.inl ha) (Or.inr ⟨rfl, rfl, ?_⟩)
      · unfold effD
        rw [h.en, hl]
        show tkD _ = none
        unfold tkD
        rw [if_neg]
        show ¬ ((d.k = 2 ∨ d.k = 3) ∧ (4 : Int) = 0)
        omega
      · exact ⟨⟨0, rfl, by show 0 < (d.ts ++ [x.now]).length; simp⟩, Or.inr ⟨by show d.k ≠ 4; omega, rfl, rfl, rfl, Or.inl ⟨rfl, hk2, rfl, rfl⟩⟩⟩
  · have hl2 : 0 < (S i).lv := by have := L.ok.lvb; omega
    refine Or.inr ⟨hl2, ?_, fun tm kv vv cv rf' => h.fin_ent hl2 h.chg0 hD.kl tm kv vv cv rf'⟩
    unfold frsR at A
    rw [if_pos rfl, if_neg hl] at A
    exact A
theorem Mov.wr_not {wt : Bool} {gw : Nat} {x : Wd} {t : Tre} {S : Nat → St} {o : List Dn} {c i : Nat} {d : Dd} (h : Mov wt gw x t S o c i d) {m : Nat → Nat} (hsw : (S i).sw ≠ ⟨#[]⟩) {n : Nd} (W : Wr x.T x.V d.kns (S i) n) (h1 : (S i).laid = pgsN n (S i)) (hne : x.V[(S i).pg.toNat]? ≠ some (S i).ver) :
    Moves (S i).kd d.f x.T x.U x.V d.kns d.rf x.T x.U x.V d.kns d.rf (.on { clrS (S i) with pg := (S i).pg, step := (S i).step + 1 }) ∧
    (∀ tm f rf', f.data.toList = frT { clrS (S i) with pg := (S i).pg, step := (S i).step + 1 } → Inv wt gw { x with now := x.now + 1, rf := rf', ds := x.ds.set i (d.go x.now tm f d.kns d.rf) } t (upS S i { clrS (S i) with pg := (S i).pg, step := (S i).step + 1 }) o) ∧
    rnk m x.V { clrS (S i) with pg := (S i).pg, step := (S i).step + 1 } < rnk m x.V (S i) := by
  have L := h.live
  have hst := h.step
  have hnow := h.now
  have hD := h.inv.ds i d h.ds
  obtain ⟨p, tx, ver, p1, p2, p3, p4, p5, p6, p7, p8, p9, p10⟩ := h.page
  obtain ⟨cu, c1, c2, c3, c4⟩ := W.cur
  have hkn := W.kn
  rw [p3] at c1 hne hkn
  rw [p7] at c1 hne
  have hcu : ver = cu := Option.some.inj c1
  have hclr : StOk { clrS (S i) with pg := (S i).pg, step := (S i).step + 1 } := by
    have h0 := L.ok
    have hst := h.step
    exact ⟨h0.op, h0.val, by have := h0.step; unfold Fr at this ⊢; simp only; omega, h0.pg, h0.keys, h0.vals, h0.pts, h0.kl, h0.kl12, h0.bl, h0.bl64, h0.bel, h0.seen, fr0, fr0, h0.lv, h0.low, h0.ch, h0.pt, (by show (⟨#[]⟩ : ByteArray).size ≤ 47; decide), Or.inl ⟨rfl, rfl, rfl⟩, h0.sp, h0.sv, h0.spk, h0.spl, h0.sp2, by show (0 : Int) ≤ ((S i).sp.length : Int); omega, by
      rcases h0.ent with h1 | h1
      · exact Or.inl h1
      · exact Or.inr ⟨h1.1, h1.2.1, h1.2.2.1, by show (S i).pt < (S i).step + 1; omega, h1.2.2.2.2⟩⟩
  refine ⟨mv_swap_no (h.wrAt hsw W) _ _ h1 p1 p5 p7 (fun e => hne (by rw [e])) hkn ⟨c2, by omega⟩ hclr, fun tm f rf' hf => ?_, ?_⟩
  · refine h.inv.step h.cl h.bs h.ds h.en h.chg0 ⟨rfl, rfl, rfl⟩ rfl hD.kl (eff_live h.en h.en rfl rfl rfl ⟨rfl, rfl, rfl⟩ fun h0 => (L.ent h0).pt) (fun a ha => Or.inl ha) (Or.inl ⟨h.en, rfl, ?_⟩)
    refine ⟨L.live, hclr, hf, L.kd, L.key, L.val, ?_, ⟨L.spr.nd, L.spr.ok⟩, fun h0 => ?_, L.way, fun e => absurd rfl e, fun hk4 => ?_⟩
    · show (S i).step + 1 = ((d.ts ++ [x.now]).length : Int)
      rw [List.length_append, List.length_singleton, L.step]; rfl
    · have e := ent_mono (d' := d.go x.now tm f d.kns d.rf) (Grows.refl t) L.ok h0 (L.ent h0) rfl (Or.inr ⟨x.now, rfl⟩) (fun _ _ => rfl)
      exact ⟨e.ch, e.pt, e.no⟩
    · have h1 : (S i).kd = 4 := hk4
      have := W.pl.kd
      omega
  · rw [rnk_wr hsw, rnk_rd (show ({ clrS (S i) with pg := (S i).pg, step := (S i).step + 1 } : St).sw = _ from rfl)]
    show m (S i).pg.toNat + 4 + 70 * (9 - (S i).lv).toNat < _
    rw [p3, if_neg (by rw [p7]; exact hne)]
    omega
end Go.Proofs.YtajobgmnmbnhiaaDoor.Sap
