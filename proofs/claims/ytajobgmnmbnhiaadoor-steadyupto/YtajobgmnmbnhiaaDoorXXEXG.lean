/- WHAT IS PROVED HERE: what a Swap of the node that is done makes of the world: what holds at any time (Inv) holds behind it (no program's function is walked). Conditions: none but those named at each theorem. -/
import Derived.Test.YtajobgmnmbnhiaaDoorXXBXD
namespace Go.Proofs.YtajobgmnmbnhiaaDoor.Sap
open Go.RowKit

/-- The Swap of a node that nobody has turned since it was read. -/
structure SwP (wt : Bool) (gw : Nat) (x : Wd) (t : Tre) (S : Nat → St) (o : List Dn) (c i : Nat) (d : Dd) (p : Nat) : Prop where
  mv : Mov wt gw x t S o c i d
  sw : (S i).sw ≠ ⟨#[]⟩
  W : Wr x.T x.V d.kns (S i) (t.nd p)
  pg : (S i).pg = (p : Int)
  p64 : p < 64
  inn : t.inn p
  U : x.U[p]? = some true
  T : x.T[p]? = some (S i).sw
  V : x.V[p]? = some (S i).ver
  vb : 0 ≤ (S i).ver ∧ (S i).ver ≤ x.now
  la : (S i).laid = pgsN (t.nd p) (S i)
theorem Mov.swP {wt : Bool} {gw : Nat} {x : Wd} {t : Tre} {S : Nat → St} {o : List Dn} {c i : Nat} {d : Dd} (h : Mov wt gw x t S o c i d) (hsw : (S i).sw ≠ ⟨#[]⟩) {n : Nd} (W : Wr x.T x.V d.kns (S i) n) (h1 : (S i).laid = pgsN n (S i)) (hV : x.V[(S i).pg.toNat]? = some (S i).ver) : ∃ p, n = t.nd p ∧ SwP wt gw x t S o c i d p := by
  obtain ⟨p, tx, ver, p1, p2, p3, p4, p5, p6, p7, p8, p9, p10⟩ := h.page
  obtain ⟨cu, c1, c2, c3, c4⟩ := W.cur
  rw [p3] at hV c1 c4
  rw [hV] at c1 p7
  have hcu : (S i).ver = cu := Option.some.inj c1
  have hver : (S i).ver = ver := Option.some.inj p7
  have hT := c4 hcu.symm
  rw [p6] at hT
  have htx : tx = (S i).sw := Option.some.inj hT
  subst htx
  have hn := W.pl.un.uniq p8
  subst hn
  exact ⟨p, rfl, h, hsw, W, p1, p2, p4, p5, p6, hV, ⟨by omega, by omega⟩, h1⟩
theorem SwP.chi {wt : Bool} {gw : Nat} {x : Wd} {t : Tre} {S : Nat → St} {o : List Dn} {c i : Nat} {d : Dd} {p : Nat} (h : SwP wt gw x t S o c i d p) : ChI (t.nd p) (S i).kd (wantV (S i)) (entV (S i)) := chi_of h.mv.live.ok h.W.pl.un.1 h.W.pl.lv h.W.pl.kd h.W.pl.w2
theorem SwP.pn {wt : Bool} {gw : Nat} {x : Wd} {t : Tre} {S : Nat → St} {o : List Dn} {c i : Nat} {d : Dd} {p : Nat} (h : SwP wt gw x t S o c i d p) : (S i).pg.toNat = p := by have := h.pg; omega
theorem SwP.cgAt {wt : Bool} {gw : Nat} {x : Wd} {t : Tre} {S : Nat → St} {o : List Dn} {c i : Nat} {d : Dd} {p : Nat} (h : SwP wt gw x t S o c i d p) : CgAt t p (S i).kd (wantV (S i)) (entV (S i)) := by
  have L := h.mv.live
  have hw := L.way
  rw [h.pn] at hw
  refine ⟨h.inn, h.chi, hw.lo, fun h0 => ?_⟩
  rw [h.W.pl.lv] at h0 ⊢
  have e1 : wantV (S i) = (S i).low := by unfold wantV; rw [if_pos h0]
  have e2 : entV (S i) = (S i).ch := by unfold entV; rw [if_pos h0]
  rw [e1, e2]
  exact (L.ent h0).ch
/-- What the Swap makes of the tree. -/
structure Swd (x : Wd) (t t' : Tre) (s : St) (p : Nat) (N : Nat → Nd → Prop) (o : List Dn) : Prop where
  tu : Turn t t' p (nxtN (t.nd p) s) N (mapO o) (aft (t.nd p).lv s.kd (wantV s) (entV s) (mapO o))
  nw : ∀ q n', N q n' → q ≠ p ∧ (q : Int) ∈ s.sp ∧ Says x.T x.U q n'
  en : pgsN (t.nd p) s = 1 → p ≠ 0 ∧ s.lv < 9 ∧ ∃ r : Nat, s.sp[0]? = some (r : Int) ∧ t'.kid (s.lv + 1) (lowV (t.nd p) s, (r : Int)) ∧ ∀ q n', N q n' → q = r
  sh : (crwB (t.nd p) s = false ∧ t' = t.put p (chgN (t.nd p) s)) ∨
    (Halves (t.nd p) s.kd (wantV s) (entV s) (lowV (t.nd p) s) ∧ p ≠ 0 ∧ ∃ r : Nat, s.sp[0]? = some (r : Int) ∧ ¬ t.inn r ∧ t' = t.split p r (lftN (chgN (t.nd p) s) (lowV (t.nd p) s) r) (rgtN (chgN (t.nd p) s) (lowV (t.nd p) s)) (lowV (t.nd p) s)) ∨
    (Halves (t.nd p) s.kd (wantV s) (entV s) (lowV (t.nd p) s) ∧ p = 0 ∧ pgsN (t.nd p) s ≠ 1 ∧ ∃ l r : Nat, ¬ t.inn l ∧ ¬ t.inn r ∧ 1 ≤ l ∧ 1 ≤ r ∧ l ≠ r ∧ t' = t.grow l r s.kd (wantV s) (entV s) (lowV (t.nd p) s))
theorem SwP.says {wt : Bool} {gw : Nat} {x : Wd} {t : Tre} {S : Nat → St} {o : List Dn} {c i : Nat} {d : Dd} {p : Nat} (h : SwP wt gw x t S o c i d p) {j q : Nat} {tx : ByteArray} {n : Nd} (hj : (S i).sp[j]? = some (q : Int)) (hT : x.T[q]? = some tx) (hu : Unp tx.data.toList n) : q ≠ p ∧ (q : Int) ∈ (S i).sp ∧ Says x.T x.U q n ∧ ¬ t.inn q ∧ 1 ≤ q ∧ q < 64 := by
  obtain ⟨q', e, h1, h2, h3, h4, -⟩ := h.mv.live.spr.ok j _ hj
  obtain rfl : q = q' := by omega
  exact ⟨fun e => h3 (e ▸ h.inn), List.mem_of_getElem? hj, ⟨h2, h4, tx, hT, hu⟩, h3, h1, h2⟩
theorem SwP.turn {wt : Bool} {gw : Nat} {x : Wd} {t : Tre} {S : Nat → St} {o : List Dn} {c i : Nat} {d : Dd} {p : Nat} (h : SwP wt gw x t S o c i d p) : ∃ t' N, Swd x t t' (S i) p N o := by
  have L := h.mv.live
  have hC := h.cgAt
  have hT := h.mv.inv.tok
  have hp := pgsN_le (t.nd p) (S i)
  have hla := h.la
  have hl9 := h.W.l9
  have hlvb := L.ok.lvb
  cases hc : crwB (t.nd p) (S i)
  · have A := turn_put hC hT hc (mapO o)
    have hn : nxtN (t.nd p) (S i) = cg (t.nd p) (S i).kd (wantV (S i)) (entV (S i)) := nxt_chg hc
    rw [← hn] at A
    refine ⟨_, _, ⟨A, fun q n' e => e.elim, fun e => ?_, Or.inl ⟨hc, congrArg (t.put p) (nxt_chg hc)⟩⟩⟩
    have : crwB (t.nd p) (S i) = true := hp.2.2.1.1 (by omega)
    rw [hc] at this; cases this
  · have H := halves_of h.chi hc
    have hv := hp.2.2.2 hc
    have h9 : (S i).lv < 9 := by have : (S i).lv ≠ 9 := fun e => hl9 ⟨hc, e⟩; omega
    by_cases hp0 : p = 0
    · subst hp0
      rw [if_pos (by rw [h.pg]; rfl)] at hv
      obtain ⟨r, tr, r1, r2, r3⟩ := h.W.rgt (by omega)
      obtain ⟨l, r', tl, l1, l2, l3, l4⟩ := h.W.lft (by omega)
      obtain rfl : r = r' := by rw [r1] at l2; have := Option.some.inj l2; omega
      obtain ⟨a1, a2, a3, a4, a5, a6⟩ := h.says r1 r2 r3
      obtain ⟨b1, b2, b3, b4, b5, b6⟩ := h.says l1 l3 l4
      have hlr : l ≠ r := fun e => by
        subst e
        obtain ⟨u1, u2⟩ := List.getElem?_eq_some_iff.1 r1
        obtain ⟨v1, v2⟩ := List.getElem?_eq_some_iff.1 l1
        have := (List.getElem_inj L.spr.nd).1 (u2.trans v2.symm)
        omega
      have A := turn_grow hC hT H a4 a5 a6 b4 b5 b6 hlr (by rw [h.W.pl.lv]; exact h9) (mapO o)
      have hn : nxtN (t.nd 0) (S i) = topN (cg (t.nd 0) (S i).kd (wantV (S i)) (entV (S i))) (lowV (t.nd 0) (S i)) l r := by
        rw [nxt_top hc (by omega), l1, r1]; rfl
      refine ⟨_, _, ⟨hn ▸ A, fun q n' e => ?_, fun e => by omega, Or.inr (Or.inr ⟨H, rfl, by omega, l, r, b4, a4, b5, a5, hlr, rfl⟩)⟩⟩
      rcases e with ⟨rfl, rfl⟩ | ⟨rfl, rfl⟩
      · exact ⟨a1, a2, a3⟩
      · exact ⟨b1, b2, b3⟩
    · rw [if_neg (by have := h.pg; omega)] at hv
      obtain ⟨r, tr, r1, r2, r3⟩ := h.W.rgt (by omega)
      obtain ⟨a1, a2, a3, a4, a5, a6⟩ := h.says r1 r2 r3
      have A := turn_split hC hT H hp0 a4 a5 a6 (mapO o)
      have hn : nxtN (t.nd p) (S i) = lftN (cg (t.nd p) (S i).kd (wantV (S i)) (entV (S i))) (lowV (t.nd p) (S i)) r := by
        rw [nxt_lft hc (by omega), r1]; rfl
      rw [← hn] at A
      refine ⟨_, _, ⟨A, fun q n' e => ?_, fun _ => ⟨hp0, h9, r, r1, ?_, fun q n' e => e.1⟩, Or.inr (Or.inl ⟨H, hp0, r, r1, a4, by rw [hn]; rfl⟩)⟩⟩
      · obtain ⟨rfl, rfl⟩ := e
        exact ⟨a1, a2, a3⟩
      · refine ⟨r, rfl, Or.inr rfl, if_pos rfl, ?_⟩
        show (if r = r then _ else _ : Nd).lv + 1 = _
        rw [if_pos rfl]
        show (t.nd p).lv + 1 = _
        rw [h.W.pl.lv]

/-- What a Put or a Drop does to the map. -/
theorem upd_drop (key v v' : Int) (m : Int → Option Int) : upd 3 key v m = upd 3 key v' m := by
  funext q; unfold upd; split <;> rfl
theorem SwP.map0 {wt : Bool} {gw : Nat} {x : Wd} {t : Tre} {S : Nat → St} {o : List Dn} {c i : Nat} {d : Dd} {p : Nat} (h : SwP wt gw x t S o c i d p) (hl : (S i).lv = 0) : mapO (o ++ [⟨x.now, d.k, d.key, d.v⟩]) = aft (t.nd p).lv (S i).kd (wantV (S i)) (entV (S i)) (mapO o) := by
  have L := h.mv.live
  rw [mapO_snoc]
  unfold aft
  rw [if_pos (by rw [h.W.pl.lv]; exact hl), L.ok.wkey hl (by have := h.W.pl.kd; omega), L.key]
  have e2 : entV (S i) = valS d.k d.v := by unfold entV; rw [if_neg (by omega)]; exact L.val
  rw [e2, L.kd]
  have hk := h.W.pl.kd
  rw [L.kd] at hk
  rcases hk with hk | hk
  · unfold valS; rw [if_neg (by omega)]
  · rw [hk]; exact upd_drop _ _ _ _
theorem SwP.mapN {wt : Bool} {gw : Nat} {x : Wd} {t : Tre} {S : Nat → St} {o : List Dn} {c i : Nat} {d : Dd} {p : Nat} (h : SwP wt gw x t S o c i d p) (hl : (S i).lv ≠ 0) : mapO o = aft (t.nd p).lv (S i).kd (wantV (S i)) (entV (S i)) (mapO o) := by
  unfold aft
  rw [if_neg (by rw [h.W.pl.lv]; exact hl)]
theorem SwP.chg {wt : Bool} {gw : Nat} {x : Wd} {t t' : Tre} {S : Nat → St} {o o' : List Dn} {c i : Nat} {d : Dd} {p : Nat} {N : Nat → Nd → Prop} (h : SwP wt gw x t S o c i d p) (A : Swd x t t' (S i) p N o) (ho : mapO o' = aft (t.nd p).lv (S i).kd (wantV (S i)) (entV (S i)) (mapO o)) :
    Chg x.now t t' (S i) x.T (x.T.set p (txtN (t.nd p) (S i))) x.U x.U x.V (x.V.set p ((S i).ver + 1)) o' := by
  have hu := txt_unp h.W.pl
  refine ⟨A.tu.ok, A.tu.gr, by rw [List.length_set]; exact h.mv.inv.tl, h.mv.inv.ul, by rw [List.length_set]; exact h.mv.inv.vl, fun q hq => ?_, us_set h.mv.inv.us (by rw [h.mv.inv.tl]; exact h.p64) h.p64 hu (fun _ hq => Or.inr hq), fun q v hv => ?_, by rw [ho]; exact A.tu.lf h.mv.inv.lf, fun _ hq => hq, ⟨p, fun q hq => ⟨List.getElem?_set_ne (Ne.symm hq), List.getElem?_set_ne (Ne.symm hq)⟩, Or.inr (Or.inr (Or.inl ⟨h.inn, _, h.V, List.getElem?_set_self (by rw [h.mv.inv.vl]; exact h.p64)⟩))⟩, fun q hq => ?_⟩
  · by_cases e : q = p
    · subst e
      rw [A.tu.at_]
      exact ⟨h.p64, h.U, _, List.getElem?_set_self (by rw [h.mv.inv.tl]; exact h.p64), hu⟩
    · rcases A.tu.new q hq with h1 | h1
      · rw [A.tu.old q h1 e]
        exact says_set (h.mv.inv.say q h1) e id
      · exact says_set (A.nw q _ h1).2.2 e id
  · have hn := h.vb
    rcases set_some hv with ⟨-, e⟩ | ⟨-, e⟩
    · omega
    · have := h.mv.inv.vb q v e; omega
  · rcases A.tu.new q hq with h1 | h1
    · exact Or.inl h1
    · exact Or.inr (A.nw q _ h1).2.1
theorem SwP.kn {wt : Bool} {gw : Nat} {x : Wd} {t : Tre} {S : Nat → St} {o : List Dn} {c i : Nat} {d : Dd} {p : Nat} (h : SwP wt gw x t S o c i d p) : d.kns[p]? = some (S i).ver := by have := h.W.kn; rw [h.pn] at this; exact this

/-- The change of a leaf, with which the operation ends. -/
theorem SwP.end0 {wt : Bool} {gw : Nat} {x : Wd} {t t' : Tre} {S : Nat → St} {o : List Dn} {c i : Nat} {d : Dd} {p : Nat} {N : Nat → Nd → Prop} (h : SwP wt gw x t S o c i d p) (A : Swd x t t' (S i) p N o) (hp : pgsN (t.nd p) (S i) ≠ 1) (hl : (S i).lv = 0) :
    Moves (S i).kd d.f x.T x.U x.V d.kns d.rf (x.T.set p (txtN (t.nd p) (S i))) x.U (x.V.set p ((S i).ver + 1)) (d.kns.set p ((S i).ver + 1)) d.rf (.fin 0 (lmap (t.nd p) d.key).isSome ((lmap (t.nd p) d.key).getD 0) d.ts.length [] [] []) ∧
    (∀ tm kv vv cv rf', Inv wt gw { x with T := x.T.set p (txtN (t.nd p) (S i)), V := x.V.set p ((S i).ver + 1), bs := x.bs.set c (-1), now := x.now + 1, rf := rf', ds := x.ds.set i (d.fin x.now (d.kns.set p ((S i).ver + 1)) d.rf 0 (lmap (t.nd p) d.key).isSome ((lmap (t.nd p) d.key).getD 0) d.ts.length [] [] [] tm kv vv cv) } t' (upS S i (S i)) (o ++ [⟨x.now, d.k, d.key, d.v⟩])) ∧ lmap (t.nd p) d.key = mapO o d.key := by
  have L := h.mv.live
  have hD := h.mv.inv.ds i d h.mv.ds
  have hnow := h.mv.now
  have hk := h.W.pl.kd
  have hkd : d.k = 2 ∨ d.k = 3 := by rw [← L.kd]; exact hk
  have hwk := L.ok.wkey hl (by omega)
  have hf := fnd_lmap h.W.pl.un.1 (S i).key
  have hw := L.way
  rw [h.pn] at hw
  have hmk : lmap (t.nd p) d.key = mapO o d.key := h.mv.inv.lf p h.inn (by rw [h.W.pl.lv]; exact hl) d.key (by rw [← L.key, ← hwk]; exact hw.lo) (by rw [← L.key, ← hwk]; exact h.W.pl.w2)
  have hT : ∀ tm kv vv cv, Took (S i) (S i) d (d.fin x.now (d.kns.set p ((S i).ver + 1)) d.rf 0 (lmap (t.nd p) d.key).isSome ((lmap (t.nd p) d.key).getD 0) d.ts.length [] [] [] tm kv vv cv) x.now o (o ++ [⟨x.now, d.k, d.key, d.v⟩]) := fun tm kv vv cv => by
    refine Or.inr ⟨effD_no h.mv.en hl, _, ?_, rfl, rfl, hkd⟩
    refine (effD_end rfl).trans ?_
    unfold tkD
    rw [if_pos ⟨hkd, rfl⟩]
    show some (⟨(d.ts ++ [x.now])[((d.ts.length : Nat) : Int).toNat]?.getD 0, d.k, d.key, d.v⟩ : Dn) = _
    rw [Int.toNat_natCast, at_now]
  refine ⟨?_, fun tm kv vv cv rf' => ?_, hmk⟩
  · have := mv_swap_fin (h.mv.wrAt h.sw h.W) d.kns d.rf h.la h.pg h.U h.V ⟨_, h.T⟩ h.kn ⟨h.vb.1, by have := h.vb; omega⟩ hp
    rw [if_pos hl, hf.1, hf.2, L.step, L.key] at this
    exact this
  · refine h.mv.inv.step h.mv.cl h.mv.bs h.mv.ds h.mv.en (h.chg A (h.map0 hl)) ⟨rfl, rfl, rfl⟩ rfl (by show (d.kns.set p _).length = 64; rw [List.length_set]; exact hD.kl) (hT tm kv vv cv) (fun a ha => Or.inl ha) (Or.inr ⟨rfl, rfl, ?_⟩)
    refine ⟨⟨d.ts.length, rfl, by show d.ts.length < (d.ts ++ [x.now]).length; simp⟩, Or.inr ⟨by show d.k ≠ 4; omega, rfl, rfl, rfl, Or.inr ⟨rfl, ?_, ?_⟩⟩⟩
    · rw [at_end _ _ _ _ _ _ _ _ _ _ _ _ _ _ _ rfl, (hT tm kv vv cv).aheadN h.mv.inv.ot]
      show (lmap (t.nd p) d.key).isSome = (mapO o d.key).isSome
      rw [hmk]
    · rw [at_end _ _ _ _ _ _ _ _ _ _ _ _ _ _ _ rfl, (hT tm kv vv cv).aheadN h.mv.inv.ot]
      show (lmap (t.nd p) d.key).getD 0 = (mapO o d.key).getD 0
      rw [hmk]
/-- The change of a node above, with which the operation ends. -/
theorem SwP.endN {wt : Bool} {gw : Nat} {x : Wd} {t t' : Tre} {S : Nat → St} {o : List Dn} {c i : Nat} {d : Dd} {p : Nat} {N : Nat → Nd → Prop} (h : SwP wt gw x t S o c i d p) (A : Swd x t t' (S i) p N o) (hp : pgsN (t.nd p) (S i) ≠ 1) (hl : 0 < (S i).lv) :
    Moves (S i).kd d.f x.T x.U x.V d.kns d.rf (x.T.set p (txtN (t.nd p) (S i))) x.U (x.V.set p ((S i).ver + 1)) (d.kns.set p ((S i).ver + 1)) d.rf (.fin 0 false 0 (S i).pt [] [] []) ∧
    ∀ tm kv vv cv rf', Inv wt gw { x with T := x.T.set p (txtN (t.nd p) (S i)), V := x.V.set p ((S i).ver + 1), bs := x.bs.set c (-1), now := x.now + 1, rf := rf', ds := x.ds.set i (d.fin x.now (d.kns.set p ((S i).ver + 1)) d.rf 0 false 0 (S i).pt [] [] [] tm kv vv cv) } t' (upS S i (S i)) o := by
  have hD := h.mv.inv.ds i d h.mv.ds
  have hnow := h.mv.now
  refine ⟨?_, fun tm kv vv cv rf' => h.mv.fin_ent hl (h.chg A (h.mapN (by omega))) (by rw [List.length_set]; exact hD.kl) tm kv vv cv rf'⟩
  have := mv_swap_fin (h.mv.wrAt h.sw h.W) d.kns d.rf h.la h.pg h.U h.V ⟨_, h.T⟩ h.kn ⟨h.vb.1, by have := h.vb; omega⟩ hp
  rw [if_neg (by omega)] at this
  exact this
/-- A node is split: the Put is to enter the half above. -/
theorem SwP.enter {wt : Bool} {gw : Nat} {x : Wd} {t t' : Tre} {S : Nat → St} {o : List Dn} {c i : Nat} {d : Dd} {p : Nat} {N : Nat → Nd → Prop} (h : SwP wt gw x t S o c i d p) (A : Swd x t t' (S i) p N o) {m m' : Nat → Nat} (hm' : RkOk t' m') (hp : pgsN (t.nd p) (S i) = 1) :
    Moves (S i).kd d.f x.T x.U x.V d.kns d.rf (x.T.set p (txtN (t.nd p) (S i))) x.U (x.V.set p ((S i).ver + 1)) (d.kns.set p ((S i).ver + 1)) d.rf (.on (enS (t.nd p) (S i))) ∧
    (∀ tm f rf', f.data.toList = frT (enS (t.nd p) (S i)) → Inv wt gw { x with T := x.T.set p (txtN (t.nd p) (S i)), V := x.V.set p ((S i).ver + 1), now := x.now + 1, rf := rf', ds := x.ds.set i (d.go x.now tm f (d.kns.set p ((S i).ver + 1)) d.rf) } t' (upS S i (enS (t.nd p) (S i))) (if (S i).lv = 0 then o ++ [⟨x.now, d.k, d.key, d.v⟩] else o)) ∧
    rnk m' (x.V.set p ((S i).ver + 1)) (enS (t.nd p) (S i)) < rnk m x.V (S i) := by
  have L := h.mv.live
  have hst := h.mv.step
  have hD := h.mv.inv.ds i d h.mv.ds
  have hnow := h.mv.now
  have hT := h.mv.inv.tok
  obtain ⟨p0, h9, r, r1, hkid, hnr⟩ := A.en hp
  have hcr : crwB (t.nd p) (S i) = true := (pgsN_le (t.nd p) (S i)).2.2.1.1 (by omega)
  have H := halves_of h.chi hcr
  obtain ⟨hm1, -, hm2, hm3⟩ := H.mem
  have hhi := right_hi _ h.W.pl.un.1
  have hcl := crowd_len h.chi hcr
  have hk2 : (S i).kd = 2 := hcl.2.2.2
  have hkd : d.k = 2 := by rw [← L.kd]; exact hk2
  have hsp0 : 0 < (S i).sp.length := (List.getElem?_eq_some_iff.1 r1).1
  have hlvb := L.ok.lvb
  have hr := L.ok.spGet hsp0
  have hspl := L.ok.spl
  have e_ch : (S i).sp[0]?.getD 0 = (r : Int) := by rw [r1]; rfl
  rw [e_ch] at hr
  have hpt : 0 ≤ (if (S i).lv = 0 then (S i).step else (S i).pt) ∧ (if (S i).lv = 0 then (S i).step else (S i).pt) < (S i).step + 1 := by
    by_cases hl : (S i).lv = 0
    · rw [if_pos hl]; omega
    · rw [if_neg hl]
      have := (L.ent (by omega)).pt
      have := L.step
      omega
  have hok : StOk (enS (t.nd p) (S i)) := by
    have h0 := L.ok
    refine ⟨h0.op, h0.val, by have := h0.step; unfold Fr at this ⊢; show 0 ≤ (S i).step + 1 ∧ (S i).step + 1 ≤ _; omega, ⟨Int.le_refl _, by show (0 : Int) ≤ 63; decide⟩, h0.keys, h0.vals, h0.pts, h0.kl, h0.kl12, h0.bl, h0.bl64, h0.bel, h0.seen, fr0, fr0, ⟨by show 0 ≤ (S i).lv + 1; omega, by show (S i).lv + 1 ≤ _; omega⟩, ⟨by show 0 ≤ lowV (t.nd p) (S i); omega, by show lowV (t.nd p) (S i) ≤ _; omega⟩, ⟨by show 0 ≤ (S i).sp[0]?.getD 0; rw [e_ch]; omega, by show (S i).sp[0]?.getD 0 ≤ _; rw [e_ch]; omega⟩, ⟨hpt.1, by have := hpt.2; show (if (S i).lv = 0 then (S i).step else (S i).pt) ≤ _; omega⟩, (by show (⟨#[]⟩ : ByteArray).size ≤ 47; decide), Or.inl ⟨rfl, rfl, rfl⟩, fun a ha => h0.sp a (List.mem_of_mem_drop ha), fun a ha => h0.sv a (List.mem_of_mem_drop ha), Or.inl hk2, ?_, ?_, ?_, Or.inr ⟨by show 1 ≤ (S i).lv + 1; omega, by show (S i).lv + 1 ≤ 9; omega, hk2, hpt.2, hm2, by show lowV (t.nd p) (S i) ≤ 9999; omega, by show 1 ≤ (S i).sp[0]?.getD 0; rw [e_ch]; exact hr.1, by show (S i).sp[0]?.getD 0 ≤ 63; rw [e_ch]; exact hr.2⟩⟩
    · show ((S i).sp.drop 1).length = ((S i).sv.drop 1).length
      rw [List.length_drop, List.length_drop, hspl]
    · show ((S i).sp.drop 1).length ≤ 2
      rw [List.length_drop]; have := h0.sp2; omega
    · show (0 : Int) ≤ (((S i).sp.drop 1).length : Int); omega
  have hwk : (S i).lv = 0 → wantV (S i) = d.key := fun hl => by rw [L.ok.wkey hl (by omega), L.key]
  have hnone : (S i).lv = 0 → mapO o d.key = none := fun hl => by
    have hw := L.way
    rw [h.pn] at hw
    rw [← h.mv.inv.lf p h.inn (by rw [h.W.pl.lv]; exact hl) d.key (by rw [← hwk hl]; exact hw.lo) (by rw [← hwk hl]; exact h.W.pl.w2)]
    exact look_none fun y hy e => hcl.2.2.1 (by rw [hwk hl, ← e]; exact (ent_key hy).1)
  have hmap : mapO (if (S i).lv = 0 then o ++ [⟨x.now, d.k, d.key, d.v⟩] else o) = aft (t.nd p).lv (S i).kd (wantV (S i)) (entV (S i)) (mapO o) := by
    by_cases hl : (S i).lv = 0
    · rw [if_pos hl]; exact h.map0 hl
    · rw [if_neg hl]; exact h.mapN hl
  refine ⟨mv_swap_ent (h.mv.wrAt h.sw h.W) d.kns d.rf h.la h.pg h.U h.V ⟨_, h.T⟩ h.kn ⟨h.vb.1, by have := h.vb; omega⟩ hp hok, fun tm f rf' hf => ?_, ?_⟩
  · have hTk : Took (S i) (enS (t.nd p) (S i)) d (d.go x.now tm f (d.kns.set p ((S i).ver + 1)) d.rf) x.now o (if (S i).lv = 0 then o ++ [⟨x.now, d.k, d.key, d.v⟩] else o) := by
      have h1 : effD (enS (t.nd p) (S i)) (d.go x.now tm f (d.kns.set p ((S i).ver + 1)) d.rf) = some ⟨(d.ts ++ [x.now])[(if (S i).lv = 0 then (S i).step else (S i).pt).toNat]?.getD 0, d.k, d.key, d.v⟩ := effD_lv h.mv.en (by show 0 < (S i).lv + 1; omega)
      by_cases hl : (S i).lv = 0
      · refine Or.inr ⟨effD_no h.mv.en hl, _, h1, ?_, ?_, Or.inl hkd⟩
        · rw [if_pos hl, if_pos hl, L.step, Int.toNat_natCast, at_now]
        · show (d.ts ++ [x.now])[(if (S i).lv = 0 then (S i).step else (S i).pt).toNat]?.getD 0 = x.now
          rw [if_pos hl, L.step, Int.toNat_natCast, at_now]
      · refine Or.inl ⟨?_, if_neg hl⟩
        rw [h1, effD_lv h.mv.en (by omega), if_neg hl, ts_more (L.ent (by omega)).pt]
    have ha : ∀ τ ∈ d.ts, ahead (if (S i).lv = 0 then o ++ [⟨x.now, d.k, d.key, d.v⟩] else o) τ = ahead o τ := fun τ hτ => hTk.ahead (hD.lt τ hτ).2
    refine h.mv.inv.step h.mv.cl h.mv.bs h.mv.ds h.mv.en (h.chg A hmap) ⟨rfl, rfl, rfl⟩ rfl (by show (d.kns.set p _).length = 64; rw [List.length_set]; exact hD.kl) hTk (fun a ha => Or.inl (List.mem_of_mem_drop ha)) (Or.inl ⟨h.mv.en, rfl, ?_⟩)
    refine ⟨L.live, hok, hf, L.kd, L.key, L.val, ?_, ⟨?_, fun j a hj => ?_⟩, fun _ => ⟨?_, ?_, ?_⟩, ⟨?_, ?_, ?_⟩, fun e => absurd rfl e, fun hk4 => ?_⟩
    · show (S i).step + 1 = ((d.ts ++ [x.now]).length : Int)
      rw [List.length_append, List.length_singleton, L.step]; rfl
    · show ((S i).sp.drop 1).Nodup
      exact (List.drop_sublist 1 _).nodup L.spr.nd
    · replace hj : ((S i).sp.drop 1)[j]? = some a := hj
      show ∃ q : Nat, a = (q : Int) ∧ 1 ≤ q ∧ q < 64 ∧ ¬ t'.inn q ∧ x.U[q]? = some true ∧ ∃ v, ((S i).sv.drop 1)[j]? = some v ∧ (x.V.set p ((S i).ver + 1))[q]? = some v ∧ (d.kns.set p ((S i).ver + 1))[q]? = some v
      rw [List.getElem?_drop] at hj ⊢
      obtain ⟨q, rfl, q1, q2, q3, q4, v, q5, q6, q7⟩ := L.spr.ok (1 + j) a hj
      have hqp : p ≠ q := fun e => q3 (e ▸ h.inn)
      refine ⟨q, rfl, q1, q2, fun e => ?_, q4, v, q5, by rw [List.getElem?_set_ne hqp]; exact q6, by rw [List.getElem?_set_ne hqp]; exact q7⟩
      rcases A.tu.new q e with h1 | h1
      · exact q3 h1
      · have := hnr q _ h1
        subst this
        obtain ⟨u1, u2⟩ := List.getElem?_eq_some_iff.1 r1
        obtain ⟨v1, v2⟩ := List.getElem?_eq_some_iff.1 hj
        have := (List.getElem_inj L.spr.nd).1 (u2.trans v2.symm)
        omega
    · show t'.kid ((S i).lv + 1) (lowV (t.nd p) (S i), (S i).sp[0]?.getD 0)
      rw [e_ch]; exact hkid
    · show 0 ≤ (if (S i).lv = 0 then (S i).step else (S i).pt) ∧ (if (S i).lv = 0 then (S i).step else (S i).pt) < ((d.ts ++ [x.now]).length : Int)
      rw [List.length_append, List.length_singleton]
      have := L.step
      omega
    · show mapO (ahead _ ((d.ts ++ [x.now])[(if (S i).lv = 0 then (S i).step else (S i).pt).toNat]?.getD 0)) d.key = none
      by_cases hl : (S i).lv = 0
      · rw [if_pos hl (t := (S i).step), L.step, Int.toNat_natCast, at_now, hTk.aheadN h.mv.inv.ot]
        exact hnone hl
      · have E := L.ent (by omega)
        rw [if_neg hl (t := (S i).step), ts_more E.pt, ha _ (ts_mem E.pt)]
        exact E.no
    · exact A.tu.gr.inn 0 hT.r0
    · show (S i).lv + 1 ≤ (t'.nd 0).lv
      have h1 := A.tu.gr.lv 0 hT.r0
      have h2 := hT.top p h.inn p0
      rw [h.W.pl.lv] at h2
      omega
    · have hwv : wantV (enS (t.nd p) (S i)) = lowV (t.nd p) (S i) := by
        show (if 0 < (S i).lv + 1 then lowV (t.nd p) (S i) else _) = _
        rw [if_pos (by omega)]
      rw [hwv]
      show t'.low 0 ≤ _
      rw [A.tu.ok.l0]; omega
    · have h1 : (S i).kd = 4 := hk4
      omega
  · rw [rnk_wr h.sw, rnk_rd (show (enS (t.nd p) (S i)).sw = _ from rfl)]
    show m' (0 : Int).toNat + 4 + 70 * (9 - ((S i).lv + 1)).toNat < _
    rw [h.pn, if_pos h.V, h.la, hp]
    have h1 := hm'.le (0 : Int).toNat
    have h2 : ((2 : Int) - 1).toNat = 1 := rfl
    rw [h2]
    omega
end Go.Proofs.YtajobgmnmbnhiaaDoor.Sap

/- WHAT IS PROVED HERE: each access of an operation that is under way, and each beginning, keeps what holds at any time (Inv); an operation that moves comes nearer to its end (no program's function is walked). Conditions: none but those named at each theorem. -/
namespace Go.Proofs.YtajobgmnmbnhiaaDoor.Sap
open Go.RowKit

/-- What an access does to the tree and to what is left to be entered, where the operation goes on; where it ends. -/
def EvOn (x : Wd) (t t' : Tre) (s s' : St) (d : Dd) (U' : List Bool) (o o' : List Dn) : Prop :=
  ((∀ p : Nat, U'[p]? = some true → x.U[p]? = some true ∨ (p : Int) ∈ s'.sp) ∧ (∀ a ∈ s.sp, a ∈ s'.sp ∨ ∃ q : Nat, a = (q : Int) ∧ t'.inn q)) ∧
  ((t' = t ∧ s'.lv = s.lv ∧ s'.ch = s.ch ∧ o' = o) ∨ (∃ p N, Swd x t t' s p N o ∧ CgAt t p s.kd (wantV s) (entV s) ∧ (t.nd p).lv = s.lv ∧ pgsN (t.nd p) s = 1 ∧ s' = enS (t.nd p) s ∧ o' = if s.lv = 0 then o ++ [⟨x.now, d.k, d.key, d.v⟩] else o))
def EvFin (x : Wd) (t t' : Tre) (s : St) (d : Dd) (rf1 : Bool) (er : Int) (U' : List Bool) (o o' : List Dn) : Prop :=
  U' = x.U ∧ (er = 0 ∨ (er = 4 ∧ d.k = 2 ∧ rf1 = true)) ∧
  ((t' = t ∧ (s.lv = 0 ∨ rf1 = true ∨ ∃ p, t.inn p ∧ (t.nd p).lv = 9) ∧ (o' = o ∨ (d.k = 3 ∧ o' = o ++ [⟨x.now, d.k, d.key, d.v⟩]))) ∨ (∃ p N, Swd x t t' s p N o ∧ CgAt t p s.kd (wantV s) (entV s) ∧ (t.nd p).lv = s.lv ∧ s.pg = (p : Int) ∧ pgsN (t.nd p) s ≠ 1 ∧ o' = if s.lv = 0 then o ++ [⟨x.now, d.k, d.key, d.v⟩] else o))
/-- What an access of client c comes to. -/
def AccG (wt : Bool) (gw : Nat) (x : Wd) (t : Tre) (S : Nat → St) (o : List Dn) (c i : Nat) (d : Dd) (m : Nat → Nat) : Prop :=
  ∃ T' U' V' kns' rf1 r, Moves d.k d.f x.T x.U x.V d.kns d.rf T' U' V' kns' rf1 r ∧ (d.rf = true → rf1 = true) ∧
    ((∃ s' t' o' m', r = .on s' ∧ EvOn x t t' (S i) s' d U' o o' ∧ RkOk t' m' ∧ rnk m' V' s' < rnk m x.V (S i) ∧ ∀ tm f rf', f.data.toList = frT s' → Inv wt gw { x with T := T', U := U', V := V', now := x.now + 1, rf := rf', ds := x.ds.set i (d.go x.now tm f kns' rf1) } t' (upS S i s') o') ∨
     (∃ t' o' er fd va pt ks vs cs, r = .fin er fd va pt ks vs cs ∧ EvFin x t t' (S i) d rf1 er U' o o' ∧ ∀ tm kv vv cv rf', Inv wt gw { x with T := T', U := U', V := V', bs := x.bs.set c (-1), now := x.now + 1, rf := rf', ds := x.ds.set i (d.fin x.now kns' rf1 er fd va pt ks vs cs tm kv vv cv) } t' (upS S i (S i)) o'))

theorem free_or (U : List Bool) : (∀ k : Nat, k < U.length → U[k]? = some true) ∨ ∃ g : Nat, U[g]? = some false ∧ ∀ k : Nat, k < g → U[k]? = some true := by
  induction U with
  | nil => exact Or.inl fun k hk => by cases hk
  | cons a r ih =>
    cases a with
    | false => exact Or.inr ⟨0, rfl, fun k hk => by omega⟩
    | true =>
      rcases ih with h | ⟨g, h1, h2⟩
      · refine Or.inl fun k hk => ?_
        cases k with
        | zero => rfl
        | succ k => exact h k (by simpa using hk)
      · refine Or.inr ⟨g + 1, h1, fun k hk => ?_⟩
        cases k with
        | zero => rfl
        | succ k => exact h2 k (by omega)
theorem Mov.acc {wt : Bool} {gw : Nat} {x : Wd} {t : Tre} {S : Nat → St} {o : List Dn} {c i : Nat} {d : Dd} (h : Mov wt gw x t S o c i d) {m : Nat → Nat} (hm : RkOk t m) : AccG wt gw x t S o c i d m := by
  have L := h.live
  by_cases hsw : (S i).sw = ⟨#[]⟩
  · obtain ⟨p, tx, ver, R⟩ := h.rdPg hsw
    by_cases hgo : rdGo (S i) (t.nd p)
    · obtain ⟨a1, a2, a3⟩ := h.rd_on hm hsw R.pg R.p64 R.inn R.U R.T R.V R.un R.v0 hgo
      rw [L.kd] at a1
      exact ⟨_, _, _, _, _, _, a1, id, Or.inl ⟨_, t, o, m, rfl, ⟨⟨fun _ hp => Or.inl hp, fun _ ha => Or.inl ha⟩, Or.inl ⟨rfl, rfl, rfl, rfl⟩⟩, hm, a3, a2⟩⟩
    · have hk := L.ok.rng
      rcases (show (S i).kd = 1 ∨ (S i).kd = 4 ∨ (S i).kd = 3 ∨ (S i).kd = 2 by omega) with hk | hk | hk | hk
      · obtain ⟨a1, a2⟩ := h.rd_get hsw R.pg R.p64 R.U R.T R.V R.un R.v0 hgo hk
        rw [L.kd] at a1
        exact ⟨_, _, _, _, _, _, a1, id, Or.inr ⟨t, o, _, _, _, _, _, _, _, rfl, ⟨rfl, Or.inl rfl, Or.inl ⟨rfl, Or.inl (L.ok.lv0 (by omega)), Or.inl rfl⟩⟩, a2⟩⟩
      · have P : ScW wt gw x t S o c i d p tx ver := ⟨h, R, hgo, hk⟩
        cases he : scEnd (S i) (t.nd p)
        · obtain ⟨a1, a2, a3⟩ := P.rd_more hm he
          rw [L.kd] at a1
          exact ⟨_, _, _, _, _, _, a1, id, Or.inl ⟨_, t, o, m, rfl, ⟨⟨fun _ hp => Or.inl hp, fun _ ha => Or.inl ha⟩, Or.inl ⟨rfl, rfl, rfl, rfl⟩⟩, hm, a3, a2⟩⟩
        · obtain ⟨a1, a2⟩ := P.rd_end he
          rw [L.kd] at a1
          exact ⟨_, _, _, _, _, _, a1, id, Or.inr ⟨t, o, _, _, _, _, _, _, _, rfl, ⟨rfl, Or.inl rfl, Or.inl ⟨rfl, Or.inl (L.ok.lv0 (by omega)), Or.inl rfl⟩⟩, a2⟩⟩
      · by_cases hno : lmap (t.nd p) d.key = none
        · obtain ⟨a1, a2⟩ := h.rd_miss R hgo hk hno
          rw [L.kd] at a1
          exact ⟨_, _, _, _, _, _, a1, id, Or.inr ⟨t, _, _, _, _, _, _, _, _, rfl, ⟨rfl, Or.inl rfl, Or.inl ⟨rfl, Or.inl (L.ok.lv0 (by omega)), Or.inr ⟨by rw [← L.kd]; exact hk, rfl⟩⟩⟩, a2⟩⟩
        · have hl0 := L.ok.lv0 (by omega)
          obtain ⟨a1, a2, a3⟩ := h.rd_see (m := m) R hgo (Or.inr ⟨hk, hno⟩) (fun e => by have := e.2; omega)
          rw [L.kd] at a1
          exact ⟨_, _, _, _, _, _, a1, id, Or.inl ⟨_, t, o, m, rfl, ⟨⟨fun _ hp => Or.inl hp, fun _ ha => Or.inl ha⟩, Or.inl ⟨rfl, rfl, rfl, rfl⟩⟩, hm, a3, a2⟩⟩
      · by_cases hl9 : crwB (t.nd p) (S i) = true ∧ (S i).lv = 9
        · obtain ⟨a1, a2⟩ := h.rd_last R hgo hl9
          rw [L.kd] at a1
          exact ⟨_, _, _, _, _, _, a1, id, Or.inr ⟨t, o, _, _, _, _, _, _, _, rfl, ⟨rfl, Or.inl rfl, Or.inl ⟨rfl, Or.inr (Or.inr ⟨p, R.inn, by rw [(h.leaf R.pg hgo).1]; exact hl9.2⟩), Or.inl rfl⟩⟩, a2⟩⟩
        · obtain ⟨a1, a2, a3⟩ := h.rd_see (m := m) R hgo (Or.inl hk) hl9
          rw [L.kd] at a1
          exact ⟨_, _, _, _, _, _, a1, id, Or.inl ⟨_, t, o, m, rfl, ⟨⟨fun _ hp => Or.inl hp, fun _ ha => Or.inl ha⟩, Or.inl ⟨rfl, rfl, rfl, rfl⟩⟩, hm, a3, a2⟩⟩
  · obtain ⟨n, W⟩ := L.wr hsw
    by_cases h1 : (S i).laid = pgsN n (S i)
    · by_cases hV : x.V[(S i).pg.toNat]? = some (S i).ver
      · obtain ⟨p, rfl, P⟩ := h.swP hsw W h1 hV
        obtain ⟨t', N, A⟩ := P.turn
        by_cases hp : pgsN (t.nd p) (S i) = 1
        · obtain ⟨m', hm1, hm2⟩ := rank_ex t' A.tu.ok
          obtain ⟨a1, a2, a3⟩ := P.enter A (m := m) (m' := m') ⟨hm1, hm2⟩ hp
          rw [L.kd] at a1
          refine ⟨_, _, _, _, _, _, a1, id, Or.inl ⟨_, t', _, m', rfl, ⟨⟨fun _ hp => Or.inl hp, fun a ha => ?_⟩, Or.inr ⟨p, N, A, P.cgAt, P.W.pl.lv, hp, rfl, rfl⟩⟩, ⟨hm1, hm2⟩, a3, a2⟩⟩
          obtain ⟨-, -, rr, hr1, ⟨cc, c1, c2, -⟩, -⟩ := A.en hp
          obtain ⟨k, hk⟩ := mem_sp ha
          cases k with
          | zero =>
            rw [hr1] at hk
            have e := Option.some.inj hk
            exact Or.inr ⟨cc, by rw [← e]; exact c1, c2⟩
          | succ k =>
            refine Or.inl (List.mem_iff_getElem?.2 ⟨k, ?_⟩)
            show ((S i).sp.drop 1)[k]? = some a
            rw [List.getElem?_drop, Nat.add_comm]; exact hk
        · by_cases hl : (S i).lv = 0
          · obtain ⟨a1, a2, -⟩ := P.end0 A hp hl
            rw [L.kd] at a1
            exact ⟨_, _, _, _, _, _, a1, id, Or.inr ⟨t', _, _, _, _, _, _, _, _, rfl, ⟨rfl, Or.inl rfl, Or.inr ⟨p, N, A, P.cgAt, P.W.pl.lv, P.pg, hp, (if_pos hl).symm⟩⟩, a2⟩⟩
          · obtain ⟨a1, a2⟩ := P.endN A hp (by have := L.ok.lvb; omega)
            rw [L.kd] at a1
            exact ⟨_, _, _, _, _, _, a1, id, Or.inr ⟨t', _, _, _, _, _, _, _, _, rfl, ⟨rfl, Or.inl rfl, Or.inr ⟨p, N, A, P.cgAt, P.W.pl.lv, P.pg, hp, (if_neg hl).symm⟩⟩, a2⟩⟩
      · obtain ⟨a1, a2, a3⟩ := h.wr_not (m := m) hsw W h1 hV
        rw [L.kd] at a1
        exact ⟨_, _, _, _, _, _, a1, id, Or.inl ⟨_, t, o, m, rfl, ⟨⟨fun _ hp => Or.inl hp, fun _ ha => Or.inl ha⟩, Or.inl ⟨rfl, rfl, rfl, rfl⟩⟩, hm, a3, a2⟩⟩
    · by_cases h2 : (S i).laid < (S i).sp.length
      · obtain ⟨g, ver, -, a1, a2, a3⟩ := h.wr_spare (m := m) hsw W h1 h2
        rw [L.kd] at a1
        exact ⟨_, _, _, _, _, _, a1, id, Or.inl ⟨_, t, o, m, rfl, ⟨⟨fun _ hp => Or.inl hp, fun _ ha => Or.inl ha⟩, Or.inl ⟨rfl, rfl, rfl, rfl⟩⟩, hm, a3, a2⟩⟩
      · rcases free_or x.U with hU | ⟨g, hg, hU⟩
        · rw [h.inv.ul] at hU
          have hcr : crwB n (S i) = true := (pgsN_le n (S i)).2.2.1.1 (by have := W.pl.laid; have := L.ok.laid0; omega)
          have hk2 : d.k = 2 := by rw [← L.kd]; exact (crowd_len (chi_of L.ok W.pl.un.1 W.pl.lv W.pl.kd W.pl.w2) hcr).2.2.2
          rcases h.wr_full hsw W h1 h2 hU with ⟨-, a1, a2⟩ | ⟨-, a1, a2⟩
          · rw [L.kd] at a1
            exact ⟨_, _, _, _, _, _, a1, fun _ => rfl, Or.inr ⟨t, o, _, _, _, _, _, _, _, rfl, ⟨rfl, Or.inr ⟨rfl, hk2, rfl⟩, Or.inl ⟨rfl, Or.inr (Or.inl rfl), Or.inl rfl⟩⟩, a2⟩⟩
          · rw [L.kd] at a1
            exact ⟨_, _, _, _, _, _, a1, fun _ => rfl, Or.inr ⟨t, o, _, _, _, _, _, _, _, rfl, ⟨rfl, Or.inl rfl, Or.inl ⟨rfl, Or.inr (Or.inl rfl), Or.inl rfl⟩⟩, a2⟩⟩
        · obtain ⟨a1, a2, a3⟩ := h.wr_fresh (m := m) hsw W h1 h2 hg hU
          rw [L.kd] at a1
          refine ⟨_, _, _, _, _, _, a1, id, Or.inl ⟨_, t, o, m, rfl, ⟨⟨fun p hp => ?_, fun a ha => Or.inl (List.mem_append.2 (Or.inl ha))⟩, Or.inl ⟨rfl, rfl, rfl, rfl⟩⟩, hm, a3, a2⟩⟩
          rcases set_some hp with ⟨e, -⟩ | ⟨-, e⟩
          · exact Or.inr (List.mem_append.2 (Or.inr (by rw [e]; simp)))
          · exact Or.inl e

/-- The state of an operation that begins. -/
def bgS (k key v : Int) : St := ⟨k, key, valS k v, 0, 0, [], [], [], [], ⟨#[]⟩, 0, [], [], 0, 0, 0, 0, 0⟩
theorem opR_parts {k key v : Int} (h : opR k key v = true) : 1 ≤ key ∧ key ≤ 9999 ∧ (k = 1 ∨ k = 3 ∨ (k = 2 ∧ 0 ≤ v ∧ v ≤ 9999) ∨ (k = 4 ∧ key ≤ v ∧ v ≤ 9999)) := by
  simp only [opR, Bool.and_eq_true, Bool.or_eq_true, decide_eq_true_eq] at h
  omega
theorem opR_valS {k key v : Int} (h : opR k key v = true) : opR k key (valS k v) = true := by
  have h1 := opR_parts h
  unfold valS
  simp only [opR, Bool.and_eq_true, Bool.or_eq_true, decide_eq_true_eq]
  split <;> omega
theorem valS_rng {k key v : Int} (h : opR k key v = true) : 0 ≤ valS k v ∧ valS k v ≤ 9999 := by
  have h1 := opR_parts h
  unfold valS
  split <;> omega
theorem bgS_ok {k key v : Int} (h : opR k key v = true) : StOk (bgS k key v) := by
  have hv := valS_rng h
  refine ⟨opR_valS h, ⟨hv.1, by show valS k v ≤ _; omega⟩, fr0, ⟨Int.le_refl _, by show (0 : Int) ≤ 63; decide⟩, fun _ hx => (by cases hx), fun _ hx => (by cases hx), fun _ hx => (by cases hx), rfl, by show 0 < 12; decide, rfl, by show 0 ≤ 64; decide, rfl, Or.inr ⟨rfl, rfl, rfl, rfl⟩, fr0, fr0, fr0, fr0, fr0, fr0, by show (⟨#[]⟩ : ByteArray).size ≤ 47; decide, Or.inl ⟨rfl, rfl, rfl⟩, fun _ hx => (by cases hx), fun _ hx => (by cases hx), Or.inr rfl, rfl, by show 0 ≤ 2; decide, Int.le_refl _, Or.inl ⟨rfl, rfl, rfl, rfl⟩⟩
theorem Inv.begun {wt : Bool} {gw : Nat} {x : Wd} {t : Tre} {S : Nat → St} {o : List Dn} (h : Inv wt gw x t S o) {c : Nat} (hc : c < 64) (hb : x.bs[c]? = some (-1)) {k key v : Int} (ho : opR k key v = true) (gd kg kc : Nat) (f : ByteArray) (dv : Value) (hf : f.data.toList = frT (bgS k key v)) :
    Inv wt gw ({ x with dv := dv, bs := x.bs.set c x.ds.length, puts := pu k x.puts, ds := x.ds ++ [Dd.new gd kg kc k key v f] } : Wd) t (upS S x.ds.length (bgS k key v)) o := by
  have hcb : c < x.bs.length := by rw [h.bsl]; exact hc
  have hlt : ∀ (k i : Nat), x.bs[k]? = some (i : Int) → i < x.ds.length := fun k i h1 => by
    have hk : k < 64 := by rw [← h.bsl]; exact (List.getElem?_eq_some_iff.1 h1).1
    rcases h.bs k hk with h2 | ⟨j, d, h2, h3, -⟩
    · rw [h1] at h2; have := Option.some.inj h2; omega
    · rw [h1] at h2
      have := Option.some.inj h2
      have := (List.getElem?_eq_some_iff.1 h3).1
      omega
  have upne : ∀ j, j < x.ds.length → upS S x.ds.length (bgS k key v) j = S j := fun j hj => if_neg (by omega)
  have upeq : upS S x.ds.length (bgS k key v) x.ds.length = bgS k key v := if_pos rfl
  have get : ∀ (i : Nat) (d : Dd), (x.ds ++ [Dd.new gd kg kc k key v f])[i]? = some d → (i < x.ds.length ∧ x.ds[i]? = some d) ∨ (i = x.ds.length ∧ d = Dd.new gd kg kc k key v f) := fun i d hd => by
    rcases Nat.lt_trichotomy i x.ds.length with hi | hi | hi
    · rw [List.getElem?_append_left hi] at hd; exact Or.inl ⟨hi, hd⟩
    · rw [List.getElem?_append_right (by omega), hi, Nat.sub_self] at hd
      cases hd
      exact Or.inr ⟨hi, rfl⟩
    · rw [List.getElem?_eq_none (by rw [List.length_append, List.length_singleton]; omega)] at hd
      cases hd
  refine ⟨h.pg, h.kp, h.wt, h.ov, h.tl, h.ul, h.vl, h.tok, h.lf, h.say, h.us, h.vb, h.now, ?_, ?_, fun j hj => ?_, fun j j' i h1 h2 => ?_, fun i d hd => ?_, fun i j d e hd he hdn hen hij a ha => ?_, fun i d hd he => ?_, h.os, ?_, h.ot, h.ok⟩
  · show 0 ≤ pu k x.puts ∧ pu k x.puts ≤ ((x.ds ++ [_]).length : Int)
    have := h.puts
    rw [List.length_append, List.length_singleton]
    unfold pu
    split <;> omega
  · show (x.bs.set c _).length = 64; rw [List.length_set]; exact h.bsl
  · show (x.bs.set c (x.ds.length : Int))[j]? = some (-1) ∨ ∃ (i : Nat) (d : Dd), (x.bs.set c (x.ds.length : Int))[j]? = some (i : Int) ∧ (x.ds ++ [Dd.new gd kg kc k key v f])[i]? = some d ∧ d.en = false
    by_cases hkc : c = j
    · subst hkc
      exact Or.inr ⟨x.ds.length, _, List.getElem?_set_self hcb, by rw [List.getElem?_append_right (Nat.le_refl _), Nat.sub_self]; rfl, rfl⟩
    · rw [List.getElem?_set_ne hkc]
      rcases h.bs j hj with h1 | ⟨i, d, h1, h2, h3⟩
      · exact Or.inl h1
      · exact Or.inr ⟨i, d, h1, by rw [List.getElem?_append_left (List.getElem?_eq_some_iff.1 h2).1]; exact h2, h3⟩
  · replace h1 : (x.bs.set c (x.ds.length : Int))[j]? = some (i : Int) := h1
    replace h2 : (x.bs.set c (x.ds.length : Int))[j']? = some (i : Int) := h2
    by_cases hkc : c = j
    · by_cases hkc' : c = j'
      · omega
      · subst hkc
        rw [List.getElem?_set_self hcb] at h1
        rw [List.getElem?_set_ne hkc'] at h2
        have := hlt j' i h2
        have := Option.some.inj h1
        omega
    · rw [List.getElem?_set_ne hkc] at h1
      by_cases hkc' : c = j'
      · subst hkc'
        rw [List.getElem?_set_self hcb] at h2
        have := hlt j i h1
        have := Option.some.inj h2
        omega
      · rw [List.getElem?_set_ne hkc'] at h2
        exact h.inj j j' i h1 h2
  · rcases get i d hd with ⟨hi, hd2⟩ | ⟨hi, rfl⟩
    · rw [upne i hi]; exact h.ds i d hd2
    · subst hi
      rw [upeq]
      have hop := opR_parts ho
      refine ⟨ho, by show ((0 : Nat) : Int) ≤ x.now; have := h.now; omega, fun τ hτ => (by cases hτ), List.Pairwise.nil, by show (List.replicate 64 (-1 : Int)).length = 64; rw [List.length_replicate], fun _ => ?_, fun e => Bool.noConfusion e⟩
      refine ⟨⟨rfl, rfl, rfl, rfl, rfl, rfl, rfl, rfl, rfl, rfl, rfl⟩, bgS_ok ho, hf, rfl, rfl, rfl, rfl, ⟨List.Pairwise.nil, fun j a hj => ?_⟩, fun e => ?_, ?_, fun e => absurd rfl e, fun _ => ⟨Scn.first _ _ _ _, fun b hb => ?_⟩⟩
      · replace hj : ([] : List Int)[j]? = some a := hj
        simp at hj
      · have : (0 : Int) < 0 := e
        omega
      · have hw : wantV (bgS k key v) = key := rfl
        show Way t 0 0 (wantV (bgS k key v))
        rw [hw]
        exact Way.root h.tok ((right_bd _ (h.tok.rt 0 h.tok.r0)).1) (by omega)
      · cases hb
  · rcases get i d hd with ⟨hi, hd2⟩ | ⟨hi, rfl⟩
    · rw [upne i hi] at ha
      rcases get j e he with ⟨hj, he2⟩ | ⟨hj, rfl⟩
      · rw [upne j hj]; exact h.apart i j d e hd2 he2 hdn hen hij a ha
      · subst hj
        rw [upeq]
        exact List.not_mem_nil
    · subst hi
      rw [upeq] at ha
      cases ha
  · show ∃ j, j < 64 ∧ (x.bs.set c (x.ds.length : Int))[j]? = some (i : Int)
    rcases get i d hd with ⟨hi, hd2⟩ | ⟨hi, rfl⟩
    · obtain ⟨k', h1, h2⟩ := h.own i d hd2 he
      have hkc : c ≠ k' := fun e => by subst e; rw [hb] at h2; have := Option.some.inj h2; omega
      exact ⟨k', h1, by rw [List.getElem?_set_ne hkc]; exact h2⟩
    · exact ⟨c, hc, by rw [List.getElem?_set_self hcb, hi]⟩
  · show o.Perm (effs (upS S x.ds.length (bgS k key v)) (x.ds ++ [Dd.new gd kg kc k key v f]))
    unfold effs
    rw [List.length_append, List.length_singleton, List.range_succ, List.filterMap_append]
    have e1 : effA (upS S x.ds.length (bgS k key v)) (x.ds ++ [Dd.new gd kg kc k key v f]) x.ds.length = none := by
      unfold effA
      rw [List.getElem?_append_right (Nat.le_refl _), Nat.sub_self, upeq]; rfl
    have e2 : List.filterMap (effA (upS S x.ds.length (bgS k key v)) (x.ds ++ [Dd.new gd kg kc k key v f])) [x.ds.length] = [] := by rw [List.filterMap_cons, e1]; rfl
    rw [e2, List.append_nil, fm_same (effA S x.ds) _ _ fun j hj => ?_]
    · exact h.op
    · unfold effA; rw [upne j hj, List.getElem?_append_left hj]

/-- The tree at the beginning: page 0, an empty leaf. -/
def Tre.one : Tre := ⟨fun _ => ⟨0, -1, 10000, [], []⟩, fun p => p = 0, fun _ => 0⟩
theorem Tre.one_ok : Tre.one.Ok := by
  refine ⟨fun _ _ => (by show rightB ⟨0, -1, 10000, [], []⟩ = true; decide), fun p hp => ?_, rfl, rfl, rfl, fun p hp h0 => absurd hp h0, fun _ _ => ⟨Int.le_refl _, by show (0 : Int) < 10000; decide⟩, fun _ _ k hk => (by cases hk), fun _ _ h0 => ?_, fun _ _ hh => absurd rfl hh, fun _ _ h0 => ?_, fun p q hp hq _ hne => ?_, fun _ _ hl => ?_⟩
  · have : p = 0 := hp
    omega
  · have : (0 : Int) < 0 := h0
    omega
  · have : (0 : Int) < 0 := h0
    omega
  · have h1 : p = 0 := hp
    have h2 : q = 0 := hq
    exact absurd (h1.trans h2.symm) hne
  · have : (0 : Int) < 0 := hl
    omega
theorem inv_first (gw tg tc ug uc vg vc bg bc : Nat) : Inv false gw (Wd.first gw tg tc ug uc vg vc bg bc) Tre.one (fun _ => bgS 1 1 0) [] := by
  have hb : ∀ c, c < 64 → (List.replicate 64 (-1 : Int))[c]? = some (-1) := fun c hc => by rw [List.getElem?_replicate, if_pos hc]
  refine ⟨rfl, rfl, rfl, rfl, rfl, rfl, rfl, Tre.one_ok, fun p hp h0 q q1 q2 => rfl, fun p hp => ?_, fun p hp => ?_, fun p v hv => ?_, Int.le_refl _, ⟨Int.le_refl _, Int.le_refl _⟩, ?_, fun c hc => Or.inl (hb c hc), fun c c' i h1 _ => ?_, fun i d hd => (by cases hd), fun i j d e hd => (by cases hd), fun i d hd => (by cases hd), List.Pairwise.nil, List.Perm.refl _, fun e he => (by cases he), fun e he => (by cases he)⟩
  · have e : p = 0 := hp
    subst e
    exact ⟨by decide, rfl, firstB, rfl, first_unp⟩
  · have e : p = 0 := by
      cases p with
      | zero => rfl
      | succ p =>
        replace hp : (List.replicate 63 false)[p]? = some true := hp
        rw [List.getElem?_replicate] at hp
        split at hp
        · cases hp
        · cases hp
    subst e
    exact ⟨_, by decide, rfl, firstB, rfl, first_unp⟩
  · replace hv : (List.replicate 64 (0 : Int))[p]? = some v := hv
    rw [List.getElem?_replicate] at hv
    split at hv
    · have := Option.some.inj hv
      show 0 ≤ v ∧ v ≤ 0
      omega
    · cases hv
  · show (List.replicate 64 (-1 : Int)).length = 64; rw [List.length_replicate]
  · replace h1 : (List.replicate 64 (-1 : Int))[c]? = some (i : Int) := h1
    have hc : c < 64 := by have := (List.getElem?_eq_some_iff.1 h1).1; rw [List.length_replicate] at this; exact this
    rw [hb c hc] at h1
    have := Option.some.inj h1
    omega
end Go.Proofs.YtajobgmnmbnhiaaDoor.Sap

/- WHAT IS PROVED HERE: when all operations have ended: the order in which they took effect is the only one (no program's function is walked). Conditions: none but those named at each theorem. -/
namespace Go.Proofs.YtajobgmnmbnhiaaDoor.Sap
open Go.RowKit

theorem Inv.allEnded {wt : Bool} {gw : Nat} {x : Wd} {t : Tre} {S : Nat → St} {o : List Dn} (h : Inv wt gw x t S o) (hid : ∀ c, c < 64 → x.bs[c]? = some (-1)) : ∀ (i : Nat) (d : Dd), x.ds[i]? = some d → d.en = true ∧ DdOk t x.T x.U x.V o x.now (S i) d := by
  intro i d hi
  refine ⟨?_, h.ds i d hi⟩
  cases he : d.en with
  | true => rfl
  | false =>
    obtain ⟨c, hc, hb⟩ := h.own i d hi he
    rw [hid c hc] at hb
    have := Option.some.inj hb
    omega
theorem Inv.over {wt : Bool} {gw : Nat} {x : Wd} {t : Tre} {S : Nat → St} {o : List Dn} (h : Inv wt gw x t S o) (hid : ∀ c, c < 64 → x.bs[c]? = some (-1)) (hn : x.now ≤ 90000000) : ∀ d ∈ x.ds, d.over := by
  intro d hd
  obtain ⟨i, hi⟩ := List.mem_iff_getElem?.1 hd
  obtain ⟨he, hD⟩ := h.allEnded hid i d hi
  obtain ⟨p, h1, h2⟩ := (hD.ed he).p
  exact ⟨he, p, h1, h2, by have := hD.nt; omega⟩
theorem fm_take {β : Type} (ds : List Dd) (g : Nat → Dd → Option β) (f : Dd → Option β) (hg : ∀ (i : Nat) (d : Dd), ds[i]? = some d → g i d = f d) (n : Nat) : (List.range n).filterMap (fun i => (ds[i]?).bind (g i)) = (ds.take n).filterMap f := by
  induction n with
  | zero => simp
  | succ n ih =>
    rw [List.range_succ, List.filterMap_append, ih, List.take_add_one, List.filterMap_append]
    congr 1
    have e : List.filterMap (fun i => (ds[i]?).bind (g i)) [n] = ((ds[n]?).bind (g n)).toList := by
      rw [List.filterMap_cons]
      cases (ds[n]?).bind (g n) <;> rfl
    rw [e]
    cases hd : ds[n]? with
    | none => rfl
    | some d =>
      show (g n d).toList = List.filterMap f [d]
      rw [hg n d hd, List.filterMap_cons]
      cases f d <;> rfl
theorem Inv.effs_all {wt : Bool} {gw : Nat} {x : Wd} {t : Tre} {S : Nat → St} {o : List Dn} (h : Inv wt gw x t S o) (hid : ∀ c, c < 64 → x.bs[c]? = some (-1)) : effs S x.ds = tkL x.ds := by
  have h1 := fm_take x.ds (fun i d => effD (S i) d) tkD (fun i d hd => effD_end (h.allEnded hid i d hd).1) x.ds.length
  rw [List.take_length] at h1
  exact h1
/-- The order in which the operations took effect is the only one. -/
theorem Inv.uniq {wt : Bool} {gw : Nat} {x : Wd} {t : Tre} {S : Nat → St} {o o' : List Dn} (h : Inv wt gw x t S o) (hid : ∀ c, c < 64 → x.bs[c]? = some (-1)) (hp : o'.Perm (tkL x.ds)) (hs : Srt o') : o' = o := by
  refine srt_uniq o o' h.os ?_ hs
  rw [← h.effs_all hid] at hp
  exact hp.trans h.op.symm
theorem ahead_ok {o : List Dn} (h : ∀ e ∈ o, e.k = 2 ∨ e.k = 3) (τ : Int) : ∀ e ∈ ahead o τ, e.k = 2 ∨ e.k = 3 := fun e he => h e ((List.takeWhile_sublist _).mem he)
end Go.Proofs.YtajobgmnmbnhiaaDoor.Sap
