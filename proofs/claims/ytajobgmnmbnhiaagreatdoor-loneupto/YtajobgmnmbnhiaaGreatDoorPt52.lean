/- WHAT IS PROVED HERE: plain facts: what Lone asks of an operation that ended alone (LnE); such an operation has few accesses (no program's function is walked). Conditions: none but those named at each theorem. -/
import Derived.Test.YtajobgmnmbnhiaaGreatDoorPt51
import Derived.Test.YtajobgmnmbnhiaaGreatDoorPt43
namespace Go.Proofs.YtajobgmnmbnhiaaGreatDoor.Sap
open Go.RowKit
def RsI (gw : Nat) (x : Wd) (T : List Int × List Int) (I : Nat) : Prop := ∃ t S o, Rest gw x t S o I ∧ T = tabO o
theorem tdo_get (k key v : Int) (K V : List Int) (h2 : k ≠ 2) (h3 : k ≠ 3) : tdo k key v K V = (K, V) := by
  unfold tdo
  rw [if_neg h2, if_neg h3, if_neg h2]
  split <;> rfl
theorem SoloE.lnE {gw : Nat} {x0 x : Wd} {t0 t : Tre} {S0 S : Nat → St} {o0 o : List Dn} {I : Nat} {d : Dd} (R : Rest gw x0 t0 S0 o0 I) (E : SoloE (Rest.sta x0 t0 I) x t S d) (h : Inv false gw x t S o) (hnow : x.now ≤ x0.now + 300) : LnE RsI gw x0 (tabO o0) I d.k d.key d.v x d := by
  obtain ⟨h1, h2, h3⟩ := E.order R h
  have hR := E.rest h
  have hE := h.allEnded E.idle _ d E.own
  have hEd := hE.2.ed hE.1
  refine ⟨hnow, E.len, E.own, ?_⟩
  by_cases hk : d.k = 4
  · have ht : tkD d = none := by unfold tkD; rw [if_neg (by omega)]
    rw [if_neg (by omega), Nat.add_zero] at hR
    have ho : o = o0 := by rw [h1, ht]; show o0 ++ [] = o0; rw [List.append_nil]
    obtain ⟨m, bel, pts, b, sn, P⟩ := h.pcs E.idle d (List.mem_of_getElem? E.own) hk
    refine Or.inl ⟨hk, ⟨m, bel, pts, b, sn, ⟨P.er, P.fd, P.va, P.cs, P.bl, P.pl, P.mm, P.ks, P.s0, P.sE, P.fE, P.pt, fun i hi => ?_, P.ri, P.bb, P.h12, P.nd, P.v0, P.v1, P.k0⟩⟩, t, S, o, hR, by rw [ho]⟩
    obtain ⟨p, be, k, hp⟩ := P.pa i hi
    have hpm : o.Perm (tkL x.ds) := by rw [← h.effs_all E.idle]; exact h.op
    have Q := hp o hpm (h.os.imp fun h => by omega)
    refine ⟨p, be, k, ?_⟩
    have hmem : d.ts[p]?.getD 0 ∈ d.ts := by
      rw [List.getElem?_eq_getElem Q.pj]
      exact List.getElem_mem _
    rw [h2 ht _ hmem] at Q
    exact Q
  · obtain ⟨a1, a2, a3⟩ := tabO_look o0 R.inv.ok
    rcases E.answer R h hk with ⟨e1, e2, e3⟩ | ⟨e1, e2, e3⟩
    · have ht : tkD d = none := by unfold tkD; rw [if_neg (by omega)]
      have ho : o = o0 := by rw [h1, ht]; show o0 ++ [] = o0; rw [List.append_nil]
      rw [if_neg (by omega), Nat.add_zero] at hR
      exact Or.inr (Or.inl ⟨e2, e1, e3, t, S, o, hR, by rw [ho]⟩)
    · refine Or.inr (Or.inr ⟨hk, e1, fun fd u hv => ?_, ⟨t, S, o, ?_, ?_⟩, fun hk1 => ?_⟩)
      · have := valR_look a1 a2 hv
        rw [a3] at this
        rw [e2, e3, this.1, this.2]; exact ⟨rfl, rfl⟩
      · have e : (d.k = 2 ∧ d.er = 0 ∧ d.fd = false) = (d.k = 2 ∧ d.fd = false) := by rw [e1]; simp
        simp only [e] at hR
        exact hR
      · by_cases h23 : d.k = 2 ∨ d.k = 3
        · have ht : tkD d = some ⟨d.at, d.k, d.key, d.v⟩ := by unfold tkD; rw [if_pos ⟨h23, e1⟩]; rfl
          rw [h1, ht]
          exact (tabO_snoc o0 ⟨d.at, d.k, d.key, d.v⟩).symm
        · have ht : tkD d = none := by unfold tkD; rw [if_neg (by omega)]
          rw [h1, ht, tdo_get _ _ _ _ _ (by omega) (by omega)]
          show _ = tabO (o0 ++ [])
          rw [List.append_nil]
      · rcases E.get hk1 with h4 | ⟨h4, h5⟩
        · exact Or.inl h4
        · refine Or.inr fun nd hs => ?_
          have hn : nd = t0.nd 0 := by
            obtain ⟨-, -, u, hu, hn⟩ := hs
            obtain ⟨-, -, u', hu', hn'⟩ := R.inv.say 0 R.inv.tok.r0
            rw [hu] at hu'
            cases hu'
            exact hn.uniq hn'
          rw [hn]
          exact ⟨h4, h5⟩
theorem Solo.rk {gw : Nat} {a : Sta} {x : Wd} {t : Tre} {S : Nat → St} {o : List Dn} {d : Dd} (H : Solo a x t S d) (h : Mov false gw x t S o 0 a.i d) (m : Nat → Nat) : 421 ≤ rnk m x.V (S a.i) := by
  have hlv : (S a.i).lv ≤ 3 := by
    have hr := root_lv h.inv.tok H.X.ct
    rcases Int.lt_or_le 0 (S a.i).lv with hl | hl
    · obtain ⟨q, h1, h2, h3, h4⟩ := (h.live.ent hl).ch
      have hq : q ≠ 0 := fun e => by
        rcases h.live.ok.ent with h5 | h5
        · omega
        · have : (S a.i).ch = (q : Int) := h1
          omega
      have := h.inv.tok.top q h2 hq
      omega
    · omega
  have := h.live.ok.lvb
  unfold rnk
  split
  · omega
  · split <;> omega
def SoQ (gw : Nat) (x0 : Wd) (t0 : Tre) (I : Nat) (k key v N : Int) (x : Wd) (r : Nat) : Prop := ∃ t S o m d, Inv false gw x t S o ∧ RkOk t m ∧ Solo (Rest.sta x0 t0 I) x t S d ∧ x.ds[x0.ds.length]? = some d ∧ d.k = k ∧ d.key = key ∧ d.v = v ∧ x.bs[0]? = some (x0.ds.length : Int) ∧ d.en = false ∧ r = rnk m x.V (S x0.ds.length) ∧ x.now + (r : Int) ≤ N
def SoF (gw : Nat) (x0 : Wd) (t0 : Tre) (I : Nat) (k key v N : Int) (x : Wd) : Prop := ∃ t S o d, Inv false gw x t S o ∧ SoloE (Rest.sta x0 t0 I) x t S d ∧ d.k = k ∧ d.key = key ∧ d.v = v ∧ x.bs[0]? = some (-1) ∧ x.now + 420 ≤ N
def LbI (gw : Nat) (x : Wd) (T : List Int × List Int) (I : Nat) (k key v : Int) (x' : Wd) : Prop := ∃ t0 S0 o0, Rest gw x t0 S0 o0 I ∧ T = tabO o0 ∧ x.ds.length ≤ 89000000 ∧ ∃ N r, N ≤ x.now + 698 ∧ N ≤ 90000000 ∧ SoQ gw x t0 I k key v N x' r
theorem so_step (w0 : World) (htab : Tab w0) {x0 : Wd} {t0 : Tre} {I : Nat} {k key v N : Int} (hi : x0.ds.length ≤ 89000000) (hN : N ≤ 90000000) {x : Wd} {r : Nat} (hx : SoQ w0.heap.size x0 t0 I k key v N x r) (fr : List As) (W : World) (hM : M w0 w0.heap.size W (x.as ++ fr)) :
    Calls Tryz.prog 28 #[.pointer (some ⟨w0.heap.size, 0, none⟩), .int .i64 0] W fun e w' => (∃ u, e = .returned u) ∧ ∃ x', (SoF w0.heap.size x0 t0 I k key v N x' ∨ ∃ r', r' < r ∧ SoQ w0.heap.size x0 t0 I k key v N x' r') ∧ M w0 w0.heap.size w' (x'.as ++ fr) := by
  obtain ⟨t, S, o, m, d, h, hm, H, hd, hk, hkey, hv, hb, he, hr, hnow⟩ := hx
  have P : Mov false w0.heap.size x t S o 0 (Rest.sta x0 t0 I).i d := ⟨h, by omega, hb, hd, he, by omega⟩
  have hlen : x.ds.length = x0.ds.length + 1 := H.len
  have hil : x0.ds.length < x.ds.length := by omega
  have hbl : 0 < x.bs.length := by rw [h.bsl]; omega
  have hrk := H.rk P m
  have hr2 : r = rnk m x.V (S (Rest.sta x0 t0 I).i) := hr
  obtain ⟨T', U', V', kns', rf1, rr, hA, hrr⟩ := H.acc P hm
  rcases hrr with ⟨s', t', o', m', rfl, hm', hlt, hI⟩ | ⟨t', o', er, fd, va, pt, ks, vs, cs, rfl, hI⟩
  · have C := P.run_on (by omega) hA fr w0 W w0.heap.size htab rfl hM
    refine C.mono ?_
    rintro e w' ⟨hu, tm, f, hf, hM'⟩
    obtain ⟨hI1, hI2⟩ := hI tm f hf
    have ui : upS S (Rest.sta x0 t0 I).i s' x0.ds.length = s' := if_pos rfl
    refine ⟨hu, _, Or.inr ⟨rnk m' V' s', by omega, t', _, o', m', _, hI1, hm', hI2, List.getElem?_set_self hil, hk, hkey, hv, hb, he, by rw [ui], ?_⟩, hM'⟩
    show x.now + 1 + (rnk m' V' s' : Int) ≤ N
    omega
  · have C := P.run_fin (by omega) hA fr w0 W w0.heap.size htab rfl hM
    refine C.mono ?_
    rintro e w' ⟨hu, tm, kv, vv, cv, hM'⟩
    obtain ⟨hI1, hI2⟩ := hI tm kv vv cv
    refine ⟨hu, _, Or.inl ⟨t', _, o', _, hI1, hI2, hk, hkey, hv, List.getElem?_set_self hbl, ?_⟩, hM'⟩
    show x.now + 1 + 420 ≤ N
    omega
theorem lnI (w0 : World) (htab : Tab w0) : LnOk RsI LbI w0 where
  ini := fun tg tc ug uc vg vc bg bc => ⟨_, _, _, rest_first w0.heap.size tg tc ug uc vg vc bg bc, rfl⟩
  pg := fun x T I ⟨t, S, o, R, e⟩ => ⟨R.inv.pg, ⟨_, R.inv.say 0 R.inv.tok.r0⟩, by rw [e]; exact (tabO_look o R.inv.ok).2.1⟩
  bg := fun x T I k key v W fr ⟨t, S, o, R, e⟩ hnd hn ho hM => by
    have h := R.inv
    have hp := h.puts
    have C := begin_step x 0 k key v fr w0 W w0.heap.size htab rfl (by omega) (by omega) hp.1 (by omega) ho hM
    rw [h.pg] at C
    refine C.mono ?_
    rintro e' w' ⟨hu, gd, kg, kc, f, dv, hf, hM'⟩
    have h9 := h.begun (by omega) (R.idle 0 (by omega)) ho gd kg kc f dv hf
    have h8 := R.begin ho gd kg kc f dv
    rw [h.pg] at h9 h8
    obtain ⟨m, hm1, hm2⟩ := rank_ex t h.tok
    have ui : upS S x.ds.length (bgS k key v) x.ds.length = bgS k key v := if_pos rfl
    have hrk : rnk m x.V (bgS k key v) ≤ 698 := by
      rw [rnk_rd rfl]
      have e0 : (bgS k key v).lv = 0 := rfl
      have := hm1 (bgS k key v).pg.toNat
      rw [e0]
      omega
    refine ⟨hu, _, ⟨t, S, o, R, e, hnd, x.now + 698, rnk m x.V (bgS k key v), by omega, by omega, t, _, o, m, Dd.new gd kg kc k key v f, h9, ⟨hm1, hm2⟩, h8, ?_, rfl, rfl, rfl, List.getElem?_set_self (by rw [h.bsl]; omega), rfl, by rw [ui], ?_⟩, hM'⟩
    · show (x.ds ++ [Dd.new gd kg kc k key v f])[x.ds.length]? = _
      rw [List.getElem?_append_right (Nat.le_refl _), Nat.sub_self]; rfl
    · show x.now + (rnk m x.V (bgS k key v) : Int) ≤ _
      omega
  pb := fun x T I k key v x' ⟨_, _, _, _, _, _, _, _, _, _, _, _, _, _, _, h, _⟩ => h.pg
  al := fun x T I k key v x' W fr ⟨t0, S0, o0, R, eT, hi, N, r, hN1, hN2, hL⟩ hM => by
    obtain ⟨rk, hrk⟩ := rkQ_ex (SoQ w0.heap.size x t0 I k key v N)
    have live : ∀ {y r}, SoQ w0.heap.size x t0 I k key v N y r → y.bs[0]? = some (x.ds.length : Int) ∧ 0 < r ∧ r ≤ 1000 := fun {y r} ⟨t, S, o, m, d, h, hm, _, hd, _, _, _, hb, he, hr, _⟩ => ⟨hb, by rw [hr]; exact rnk_rng hm ((h.ds _ d hd).lv he).ok⟩
    refine (alone_gen 0 w0.heap.size (fun y => SoF w0.heap.size x t0 I k key v N y ∨ ∃ r, SoQ w0.heap.size x t0 I k key v N y r) (fun y => if y.bs[0]? = some (-1) then 0 else rk y) fr w0 W w0.heap.size x' (by omega) (fun y hy => ?_) (fun y hy => ?_) (fun y j W hy hb hW => ?_) (Or.inr ⟨r, hL⟩) ?_ hM).mono ?_
    · rcases hy with ⟨_, _, _, _, h, _⟩ | ⟨_, _, _, _, _, _, h, _⟩ <;> exact h.pg
    · rcases hy with ⟨_, _, _, _, _, _, _, _, _, h1, _⟩ | ⟨r, h1⟩
      · exact Or.inl h1
      · have h2 := live (hrk y r h1).1
        refine Or.inr ⟨⟨x.ds.length, h2.1⟩, ?_⟩
        show 0 < (if y.bs[0]? = some (-1) then 0 else rk y)
        rw [h2.1, if_neg ne_neg]; exact h2.2.1
    · rcases hy with ⟨_, _, _, _, _, _, _, _, _, h1, _⟩ | ⟨r, h1⟩
      · rw [hb] at h1; exact absurd h1 ne_neg
      · have h2 := (hrk y r h1).1
        have h3 := live h2
        refine (so_step w0 htab hi hN2 h2 fr W hW).mono ?_
        rintro e w' ⟨hu, y', hy', hM'⟩
        refine ⟨hu, y', ?_, ?_, hM'⟩
        · rcases hy' with h4 | ⟨r', -, h4⟩
          · exact Or.inl h4
          · exact Or.inr ⟨r', h4⟩
        · show (if y'.bs[0]? = some (-1) then 0 else rk y') < (if y.bs[0]? = some (-1) then 0 else rk y)
          rw [h3.1, if_neg ne_neg]
          rcases hy' with ⟨_, _, _, _, _, _, _, _, _, h4, _⟩ | ⟨r', hlt, h4⟩
          · rw [if_pos h4]; exact h3.2.1
          · have h5 := (hrk y' r' h4).2
            have h6 := (live h4).1
            rw [h6, if_neg ne_neg]
            omega
    · show (if x'.bs[0]? = some (-1) then 0 else rk x') ≤ 1000
      have h2 := live (hrk x' r hL).1
      rw [h2.1, if_neg ne_neg]; exact h2.2.2
    · rintro e w' ⟨hu, y', hy', hb', hM'⟩
      rcases hy' with ⟨t, S, o, d, h, E, hk, hkey, hv, -, hnw⟩ | ⟨r', h4⟩
      · refine ⟨hu, y', d, ?_, hM'⟩
        have := E.lnE R h (by omega)
        rw [hk, hkey, hv] at this
        rw [eT]; exact this
      · rw [(live h4).1] at hb'; exact absurd hb' ne_neg
theorem lone_any (sv : Value) (os : List Ro) (w : World) (htab : Tab w) (hT : ORd w sv os) (hok : ∀ t ∈ os, t.ok) (hlen : os.length ≤ 262144) :
    Calls Tryz.prog 4 #[sv] w fun e w' => e = .returned (.bool true) ∧ Below w.heap.size w w' := by
  obtain ⟨rk, G⟩ := good_ex
  exact lone_gen sv os (InvG false) rk RsI LbI w htab hT hok hlen G fun W ht => lnI W ht
end Go.Proofs.YtajobgmnmbnhiaaGreatDoor.Sap
