/- WHAT IS PROVED HERE: the program at this commit is a machine (Mc) over which scripts are played: each access of saplingkeep's move and each begin keeps what holds at any time, and an operation that moves comes nearer to its end. Conditions: the table of powers of ten is laid; the numbers are small. -/
import Derived.Test.YtajobgmnmbnhiaaGreatDoorPt44
import Derived.Test.YtajobgmnmbnhiaaGreatDoorPt42
namespace Go.Proofs.YtajobgmnmbnhiaaGreatDoor.Sap
open Go.RowKit
theorem least_ex (P : Nat → Prop) {n : Nat} (h : P n) : ∃ k, P k ∧ ∀ j, P j → k ≤ j := by
  induction n using Nat.strongRecOn with
  | ind n ih =>
    by_cases hs : ∃ j, j < n ∧ P j
    · obtain ⟨j, hj, hp⟩ := hs
      exact ih j hj hp
    · exact ⟨n, h, fun j hj => Nat.le_of_not_lt fun e => hs ⟨j, e, hj⟩⟩
def Ext (x : Wd) (t : Tre) (S : Nat → St) (o : List Dn) : Prop := Xtr x t S ∧ FulX x t S o
theorem EvOn.gr {x : Wd} {t t' : Tre} {s s' : St} {d : Dd} {U' : List Bool} {o o' : List Dn} (E : EvOn x t t' s s' d U' o o') : Grows t t' := by
  rcases E.2 with ⟨rfl, -⟩ | ⟨p, N, A, -⟩
  · exact Grows.refl _
  · exact A.tu.gr
theorem EvFin.gr {x : Wd} {t t' : Tre} {s : St} {d : Dd} {rf1 : Bool} {er : Int} {U' : List Bool} {o o' : List Dn} (E : EvFin x t t' s d rf1 er U' o o') : Grows t t' := by
  rcases E.2.2 with ⟨rfl, -⟩ | ⟨p, N, A, -⟩
  · exact Grows.refl _
  · exact A.tu.gr
def RkP (c : Nat) (x : Wd) (r : Nat) : Prop := ∃ (t : Tre) (S : Nat → St) (o : List Dn) (m : Nat → Nat) (i : Nat), Inv x.wt x.gw x t S o ∧ Ext x t S o ∧ RkOk t m ∧ x.bs[c]? = some (i : Int) ∧ r = rnk m x.V (S i)
theorem rk_ex : ∃ rk : Nat → Wd → Nat, ∀ c x r, RkP c x r → RkP c x (rk c x) ∧ rk c x ≤ r := by
  classical
  refine ⟨fun c x => if h : ∃ r, RkP c x r then (least_ex (RkP c x) h.choose_spec).choose else 0, fun c x r hr => ?_⟩
  have h : ∃ r, RkP c x r := ⟨r, hr⟩
  simp only [h, dif_pos]
  have := (least_ex (RkP c x) h.choose_spec).choose_spec
  exact ⟨this.1, this.2 r hr⟩
theorem rnk_rng {m : Nat → Nat} {V : List Int} {s : St} {t : Tre} (hm : RkOk t m) (hs : StOk s) : 0 < rnk m V s ∧ rnk m V s ≤ 1000 := by
  have h1 := hm.le s.pg.toNat
  have h2 := hs.lvb
  have h3 := hs.laid0
  unfold rnk
  split
  · omega
  · split <;> omega
def StandsOk : Prop := ∀ (gw tg tc ug uc : Nat) (T : List ByteArray) (U : List Bool) (t : Tre) (W : World), t.Ok → T.length = 64 → U.length = 64 → (∀ p, t.inn p → Says T U p (t.nd p)) → (∀ p : Nat, U[p]? = some true → ∃ n, Says T U p n) → PgR gw tg tc ug uc T U W → Calls Tryz.prog 46 #[.pointer (some ⟨gw, 0, none⟩)] W fun e w' => e = .returned (.bool true) ∧ Below W.heap.size W w'
def InvG (wt : Bool) (gw : Nat) (x : Wd) : Prop := (∃ t S o, Inv wt gw x t S o ∧ Ext x t S o) ∧ x.ds.length ≤ 90000001
theorem nx_go (x : Wd) (c i : Nat) (d : Dd) (T : List ByteArray) (U : List Bool) (V : List Int) (rf : Bool) : Nx c x { x with T := T, U := U, V := V, now := x.now + 1, rf := rf, ds := x.ds.set i d } := ⟨rfl, List.length_set, fun _ _ => rfl⟩
theorem nx_fin (x : Wd) (c i : Nat) (d : Dd) (T : List ByteArray) (U : List Bool) (V : List Int) (rf : Bool) : Nx c x { x with T := T, U := U, V := V, bs := x.bs.set c (-1), now := x.now + 1, rf := rf, ds := x.ds.set i d } := ⟨rfl, List.length_set, fun _ hj => List.getElem?_set_ne (Ne.symm hj)⟩
theorem begin_step (x : Wd) (c : Nat) (k key v : Int) (fr : List As) (w0 w : World) (B : Nat) (htab : Tab w0) (hB : B = w0.heap.size) (hc : c < 64) (hnd : x.ds.length ≤ 100000000) (hp0 : 0 ≤ x.puts) (hp1 : x.puts ≤ 100000000) (ho : opR k key v = true) (hM : M w0 B w (x.as ++ fr)) :
    Calls Tryz.prog 10 #[.pointer (some ⟨x.gw, 0, none⟩), .int .i64 c, .agg #[.int .i64 k, .int .i64 key, .int .i64 v]] w fun e w' => (∃ u, e = .returned u) ∧ ∃ (gd kg kc : Nat) (f : ByteArray) (dv' : Value), f.data.toList = frT (bgS k key v) ∧ M w0 B w' (({ x with dv := dv', bs := x.bs.set c x.ds.length, puts := pu k x.puts, ds := x.ds ++ [Dd.new gd kg kc k key v f] } : Wd).as ++ fr) := by
  refine sys_begin x c k key v (fun f => f.data.toList = frT (bgS k key v)) fr w0 w B htab hB hc hnd hp0 hp1 (fun W ht => ?_) hM
  refine (begin_any k key v W ht).mono ?_
  rintro e w' ⟨hR, hb⟩
  rcases hR with ⟨hno, -⟩ | ⟨-, f, he, hf⟩
  · rw [ho] at hno; cases hno
  · exact ⟨⟨f, he, hf⟩, hb⟩
theorem Mov.move {wt : Bool} {gw : Nat} {x : Wd} {t : Tre} {S : Nat → St} {o : List Dn} {c i : Nat} {d : Dd} (h : Mov wt gw x t S o c i d) (X : Ext x t S o) {m : Nat → Nat} (hm : RkOk t m) (hl : x.ds.length ≤ 100000000) (hSt : wt = true → StandsOk) (fr : List As) (w0 w : World) (B : Nat) (htab : Tab w0) (hB : B = w0.heap.size) (hM : M w0 B w (x.as ++ fr)) :
    Calls Tryz.prog 28 #[.pointer (some ⟨x.gw, 0, none⟩), .int .i64 c] w fun e w' => (∃ u, e = .returned u) ∧ ∃ x', ((∃ t' S' o', Inv wt gw x' t' S' o' ∧ Ext x' t' S' o' ∧ x'.bs[c]? = some (-1)) ∨ (∃ t' S' o' m', Inv wt gw x' t' S' o' ∧ Ext x' t' S' o' ∧ RkOk t' m' ∧ x'.bs[c]? = some (i : Int) ∧ rnk m' x'.V (S' i) < rnk m x.V (S i))) ∧ Nx c x x' ∧ M w0 B w' (x'.as ++ fr) := by
  have L := h.live
  have hD := h.inv.ds i d h.ds
  have hnow := h.now
  have hn0 := h.inv.now
  have hnt := hD.nt
  obtain ⟨T', U', V', kns', rf1, r, hA, hrf, hr⟩ := h.acc hm
  have hrfx : x.rf = true → (x.rf || rf1) = true := fun e => by rw [e]; rfl
  have hrf1 : rf1 = true → (x.rf || rf1) = true := fun e => by rw [e, Bool.or_true]
  have hcb : c < x.bs.length := by rw [h.inv.bsl]; exact h.cl
  rcases hr with ⟨s', t', o', m', rfl, hE, hm', hlt, hI⟩ | ⟨t', o', er, fd, va, pt, ks, vs, cs, rfl, hE, hI⟩
  · have hst : x.wt = true → ∀ W, PgR x.gw x.tg x.tc x.ug x.uc T' U' W → Calls Tryz.prog 46 #[.pointer (some ⟨x.gw, 0, none⟩)] W fun e w' => e = .returned (.bool true) ∧ Below W.heap.size W w' := fun e W hP => by
      have I := hI d.tm (byt (frT s')) false (by unfold byt; simp)
      exact hSt (by rw [← h.inv.wt]; exact e) x.gw x.tg x.tc x.ug x.uc T' U' t' W I.tok I.tl I.ul I.say I.us hP
    refine (move_on x d c i rf1 kns' V' T' U' s' fr w0 w B htab hB h.cl h.bs h.ds L.live h.inv.kp hst hl (by omega) ⟨hn0, by omega⟩ hA hM).mono ?_
    rintro e w' ⟨hu, tm, f, hf, hM'⟩
    refine ⟨hu, _, Or.inr ⟨t', upS S i s', o', m', hI tm f (x.rf || rf1) hf, ⟨xtr_on h X.1 hE rfl h.en hrfx, ful_on h X.2 hE (hI tm f (x.rf || rf1) hf) hE.gr rfl rfl rfl h.en rfl rfl hrf⟩, hm', h.bs, ?_⟩, nx_go x c i _ T' U' V' _, hM'⟩
    have e : upS S i s' i = s' := if_pos rfl
    rw [e]; exact hlt
  · have hst : x.wt = true → ∀ W, PgR x.gw x.tg x.tc x.ug x.uc T' U' W → Calls Tryz.prog 46 #[.pointer (some ⟨x.gw, 0, none⟩)] W fun e w' => e = .returned (.bool true) ∧ Below W.heap.size W w' := fun e W hP => by
      have I := hI d.tm d.tm d.tm d.tm false
      exact hSt (by rw [← h.inv.wt]; exact e) x.gw x.tg x.tc x.ug x.uc T' U' t' W I.tok I.tl I.ul I.say I.us hP
    refine (move_fin x d c i rf1 kns' V' T' U' er fd va pt ks vs cs fr w0 w B htab hB h.cl h.bs h.ds L.live h.inv.kp hst hl (by omega) ⟨hn0, by omega⟩ hA hM).mono ?_
    rintro e w' ⟨hu, tm, kv, vv, cv, hM'⟩
    exact ⟨hu, _, Or.inl ⟨t', upS S i (S i), o', hI tm kv vv cv (x.rf || rf1), ⟨xtr_fin h X.1 hE rfl hrfx hrf1, ful_fin h X.2 hE hE.gr rfl rfl rfl rfl rfl rfl rfl⟩, List.getElem?_set_self hcb⟩, nx_fin x c i _ T' U' V' _, hM'⟩
theorem mc_ex : ∃ rk : Nat → Wd → Nat, ∀ (wt : Bool), (wt = true → StandsOk) → ∀ (w0 : World), Tab w0 → Mc (InvG wt w0.heap.size) rk w0.heap.size w0 w0.heap.size := by
  obtain ⟨rk, hrk⟩ := rk_ex
  have key : ∀ {wt : Bool} {gw : Nat} {x : Wd} {t : Tre} {S : Nat → St} {o : List Dn} (c i : Nat) (_ : Inv wt gw x t S o) (_ : Ext x t S o) (_ : x.bs[c]? = some (i : Int)) (m : Nat → Nat) (_ : RkOk t m), RkP c x (rnk m x.V (S i)) := fun {wt gw x t S o} c i h X hb m hm => ⟨t, S, o, m, i, by rw [h.wt, h.pg]; exact h, X, hm, hb, rfl⟩
  refine ⟨rk, fun wt hSt w0 htab => ⟨fun x ⟨⟨_, _, _, h, _⟩, _⟩ => h.pg, fun x c ⟨⟨t, S, o, h, X⟩, _⟩ hc => ?_, fun x ⟨⟨_, _, _, h, _⟩, _⟩ => h.now, fun x c i W fr hc ⟨⟨t0, S0, o0, h0, X0⟩, hl⟩ hn hb hM => ?_, fun x c k key v W fr hc ⟨⟨t, S, o, h, X⟩, _⟩ hl ho hb hM => ?_⟩⟩
  · rcases h.bs c hc with h1 | ⟨i, d, h1, h2, h3⟩
    · exact Or.inl h1
    · refine Or.inr ⟨⟨i, h1⟩, ?_⟩
      obtain ⟨m, hm1, hm2⟩ := rank_ex t h.tok
      obtain ⟨⟨t', S', o', m', i', hI, -, hm', hb', e⟩, -⟩ := hrk c x _ (key c i h X h1 m ⟨hm1, hm2⟩)
      have hi : i = i' := by rw [h1] at hb'; have := Option.some.inj hb'; omega
      subst hi
      rw [e]
      exact rnk_rng hm' ((hI.ds i d h2).lv h3).ok
  · obtain ⟨m0, hm1, hm2⟩ := rank_ex t0 h0.tok
    obtain ⟨⟨t, S, o, m, i', hI, X, hm, hb', e⟩, -⟩ := hrk c x _ (key c i h0 X0 hb m0 ⟨hm1, hm2⟩)
    have hi : i = i' := by rw [hb] at hb'; have := Option.some.inj hb'; omega
    subst hi
    rw [h0.wt, h0.pg] at hI
    obtain ⟨d, hd, hen⟩ : ∃ d, x.ds[i]? = some d ∧ d.en = false := by
      rcases hI.bs c hc with h1 | ⟨j, d, h1, h2, h3⟩
      · rw [hb] at h1; have := Option.some.inj h1; omega
      · obtain rfl : i = j := by rw [hb] at h1; have := Option.some.inj h1; omega
        exact ⟨d, h2, h3⟩
    have C := (Mov.mk hI hc hb hd hen hn).move X hm (by omega) hSt fr w0 W w0.heap.size htab rfl hM
    rw [h0.pg] at C
    refine C.mono ?_
    rintro e2 w' ⟨hu, x', hx, hN, hM'⟩
    rcases hx with ⟨t', S', o', hI', X', hb2⟩ | ⟨t', S', o', m', hI', X', hm', hb2, hlt⟩
    · exact ⟨hu, x', ⟨⟨t', S', o', hI', X'⟩, by rw [hN.nd]; exact hl⟩, hN, Or.inl hb2, hM'⟩
    · refine ⟨hu, x', ⟨⟨t', S', o', hI', X'⟩, by rw [hN.nd]; exact hl⟩, hN, Or.inr ?_, hM'⟩
      have := (hrk c x' _ (key c i hI' X' hb2 m' hm')).2
      omega
  · have hp := h.puts
    have C := begin_step x c k key v fr w0 W w0.heap.size htab rfl hc (by omega) hp.1 (by omega) ho hM
    rw [h.pg] at C
    refine C.mono ?_
    rintro e w' ⟨hu, gd, kg, kc, f, dv, hf, hM'⟩
    refine ⟨hu, { x with gw := w0.heap.size, dv := dv, bs := x.bs.set c x.ds.length, puts := pu k x.puts, ds := x.ds ++ [Dd.new gd kg kc k key v f] }, ⟨⟨t, _, o, by have h9 := h.begun hc hb ho gd kg kc f dv hf; rw [h.pg] at h9; exact h9, ⟨X.1.begun _ _ _ rfl rfl, X.2.begun _ gd kg kc k key v f rfl rfl rfl⟩⟩, ?_⟩, rfl, ?_, fun j hj => List.getElem?_set_ne (fun e => hj e.symm), hM'⟩
    · show (x.ds ++ [_]).length ≤ _; rw [List.length_append, List.length_singleton]; omega
    · show (x.ds ++ [_]).length = _; rw [List.length_append, List.length_singleton]
theorem Mov.run_on {gw : Nat} {x : Wd} {t : Tre} {S : Nat → St} {o : List Dn} {c i : Nat} {d : Dd} (h : Mov false gw x t S o c i d) (hl : x.ds.length ≤ 100000000) {T' : List ByteArray} {U' : List Bool} {V' kns' : List Int} {rf1 : Bool} {s' : St} (hA : Moves (S i).kd d.f x.T x.U x.V d.kns d.rf T' U' V' kns' rf1 (.on s')) (fr : List As) (w0 w : World) (B : Nat) (htab : Tab w0) (hB : B = w0.heap.size) (hM : M w0 B w (x.as ++ fr)) :
    Calls Tryz.prog 28 #[.pointer (some ⟨gw, 0, none⟩), .int .i64 c] w fun e w' => (∃ u, e = .returned u) ∧ ∃ tm f, f.data.toList = frT s' ∧ M w0 B w' (({ x with T := T', U := U', V := V', now := x.now + 1, rf := x.rf || rf1, ds := x.ds.set i (d.go x.now tm f kns' rf1) } : Wd).as ++ fr) := by
  have e0 := h.inv.pg
  subst e0
  have L := h.live
  have hnow := h.now
  have hn0 := h.inv.now
  have hnt := (h.inv.ds i d h.ds).nt
  rw [L.kd] at hA
  exact move_on x d c i rf1 kns' V' T' U' s' fr w0 w B htab hB h.cl h.bs h.ds L.live h.inv.kp (fun e => by rw [h.inv.wt] at e; cases e) hl (by omega) ⟨hn0, by omega⟩ hA hM
theorem Mov.run_fin {gw : Nat} {x : Wd} {t : Tre} {S : Nat → St} {o : List Dn} {c i : Nat} {d : Dd} (h : Mov false gw x t S o c i d) (hl : x.ds.length ≤ 100000000) {T' : List ByteArray} {U' : List Bool} {V' kns' : List Int} {rf1 : Bool} {er : Int} {fd : Bool} {va pt : Int} {ks vs : List Int} {cs : List (Int × Int)} (hA : Moves (S i).kd d.f x.T x.U x.V d.kns d.rf T' U' V' kns' rf1 (.fin er fd va pt ks vs cs)) (fr : List As) (w0 w : World) (B : Nat) (htab : Tab w0) (hB : B = w0.heap.size) (hM : M w0 B w (x.as ++ fr)) :
    Calls Tryz.prog 28 #[.pointer (some ⟨gw, 0, none⟩), .int .i64 c] w fun e w' => (∃ u, e = .returned u) ∧ ∃ tm kv vv cv, M w0 B w' (({ x with T := T', U := U', V := V', bs := x.bs.set c (-1), now := x.now + 1, rf := x.rf || rf1, ds := x.ds.set i (d.fin x.now kns' rf1 er fd va pt ks vs cs tm kv vv cv) } : Wd).as ++ fr) := by
  have e0 := h.inv.pg
  subst e0
  have L := h.live
  have hnow := h.now
  have hn0 := h.inv.now
  have hnt := (h.inv.ds i d h.ds).nt
  rw [L.kd] at hA
  exact move_fin x d c i rf1 kns' V' T' U' er fd va pt ks vs cs fr w0 w B htab hB h.cl h.bs h.ds L.live h.inv.kp (fun e => by rw [h.inv.wt] at e; cases e) hl (by omega) ⟨hn0, by omega⟩ hA hM
def pvM (i : Nat) (q : Int) : Option Int := if i = 2 ∨ i = 3 ∨ i = 4 then (if q = 5 then some 50 else none) else none
def PvT (t : Tre) (i : Nat) : Prop := (t.nd 0).lv = 0 ∧ ∀ q, lmap (t.nd 0) q = pvM i q
def PvI (gw i : Nat) (x : Wd) : Prop := ∃ t S o, Inv false gw x t S o ∧ (∀ c, c < 64 → x.bs[c]? = some (-1)) ∧ x.now ≤ 1000 * (i : Int) ∧ x.ds.length = i ∧ PvT t i
def LoP (gw i : Nat) (N0 : Int) (x : Wd) : Prop := ∃ t S o d, Inv false gw x t S o ∧ x.ds.length = i + 1 ∧ (∀ c, c < 64 → c ≠ 0 → x.bs[c]? = some (-1)) ∧ x.ds[i]? = some d ∧
  ((x.bs[0]? = some (i : Int) ∧ d.en = false ∧ d.k = pvK i ∧ d.key = pvY i ∧ d.v = pvV i ∧ PvT t i ∧ (S i).lv = 0 ∧ (((S i).sw = ⟨#[]⟩ ∧ x.now = N0) ∨ ((S i).sw ≠ ⟨#[]⟩ ∧ x.V[0]? = some (S i).ver ∧ x.now = N0 + 1))) ∨
   (x.bs[0]? = some (-1) ∧ d.er = 0 ∧ d.va = pvW i ∧ d.fd = decide (0 < pvW i) ∧ PvT t (i + 1) ∧ x.now ≤ N0 + 2))
def PbI (gw i : Nat) (x : Wd) : Prop := ∃ N0, 0 ≤ N0 ∧ N0 ≤ 1000 * (i : Int) ∧ LoP gw i N0 x ∧ x.bs[0]? = some (i : Int)
theorem ne_neg {i : Nat} : ¬ (some (i : Int) = some (-1)) := fun e => by have := Option.some.inj e; omega
theorem lmap_of_mem {n : Nd} (hr : rightB n = true) {q : Int} (hq : q ∈ n.ks) : ∃ v, lmap n q = some v := by
  have hb := right_bd n hr
  obtain ⟨i, hi⟩ := List.mem_iff_getElem?.1 hq
  have hil := (List.getElem?_eq_some_iff.1 hi).1
  have hl := hb.2.2.2.1
  refine ⟨n.vs[i]'(by omega), (lmap_mem hr _ _).1 (List.mem_iff_getElem?.2 ⟨i, ?_⟩)⟩
  show (n.ks.zip n.vs)[i]? = _
  rw [List.getElem?_zip_eq_some]
  exact ⟨hi, List.getElem?_eq_getElem (by omega)⟩
theorem no_keys {n : Nd} (hr : rightB n = true) (h : ∀ q, lmap n q = none) : n.ks = [] := by
  cases hk : n.ks with
  | nil => rfl
  | cons a r =>
    obtain ⟨v, hv⟩ := lmap_of_mem hr (q := a) (by rw [hk]; simp)
    rw [h] at hv; cases hv
theorem one_key {n : Nd} (hr : rightB n = true) (h : ∀ q, lmap n q = if q = 5 then some 50 else none) : n.ks = [5] := by
  have hall : ∀ q ∈ n.ks, q = 5 := fun q hq => by
    obtain ⟨v, hv⟩ := lmap_of_mem hr hq
    rw [h] at hv
    split at hv
    next e => exact e
    next => cases hv
  have h5 : (5 : Int) ∈ n.ks := (List.of_mem_zip (mem_look (show lmap n 5 = some 50 by rw [h, if_pos rfl]))).1
  have hp := right_pw n hr
  cases hk : n.ks with
  | nil => rw [hk] at h5; cases h5
  | cons a r =>
    rw [hk] at hall hp
    cases r with
    | nil => rw [hall a (by simp)]
    | cons b s =>
      have h1 := hall a (by simp)
      have h2 := hall b (by simp)
      have h3 := (List.pairwise_cons.1 hp).1 b (by simp)
      omega
theorem pv_ks {n : Nd} {i : Nat} (hr : rightB n = true) (h : ∀ q, lmap n q = pvM i q) : n.ks.length ≤ 1 := by
  by_cases hi : i = 2 ∨ i = 3 ∨ i = 4
  · rw [one_key hr fun q => by rw [h]; unfold pvM; rw [if_pos hi]]; exact Nat.le_refl _
  · rw [no_keys hr fun q => by rw [h]; unfold pvM; rw [if_neg hi]]; exact Nat.zero_le _
theorem pv_next (i : Nat) (hi : i < 6) (hk : pvK i = 2 ∨ pvK i = 3) (q : Int) : upd (pvK i) (pvY i) (pvV i) (pvM i) q = pvM (i + 1) q := by
  have hcase : i = 0 ∨ i = 1 ∨ i = 2 ∨ i = 3 ∨ i = 4 ∨ i = 5 := by omega
  rcases hcase with rfl | rfl | rfl | rfl | rfl | rfl
  · exact absurd hk (by decide)
  · rfl
  · exact absurd hk (by decide)
  · exact absurd hk (by decide)
  · show (if q = 5 then (if (3 : Int) = 2 then some 0 else if (3 : Int) = 3 then none else pvM 4 q) else pvM 4 q) = none
    by_cases hq : q = 5
    · rw [if_pos hq]; rfl
    · rw [if_neg hq]
      show (if q = 5 then some (50 : Int) else none) = none
      rw [if_neg hq]
  · exact absurd hk (by decide)
theorem pv_same (i : Nat) (hi : i < 6) (hk : pvK i = 1 ∨ pvK i = 4) (q : Int) : pvM i q = pvM (i + 1) q := by
  have hcase : i = 0 ∨ i = 1 ∨ i = 2 ∨ i = 3 ∨ i = 4 ∨ i = 5 := by omega
  rcases hcase with rfl | rfl | rfl | rfl | rfl | rfl
  · rfl
  · exact absurd hk (by decide)
  · rfl
  · rfl
  · exact absurd hk (by decide)
  · rfl
theorem pv_ans (i : Nat) (hi : i < 6) (hk : pvK i ≠ 4) : (pvM i (pvY i)).getD 0 = pvW i ∧ (pvM i (pvY i)).isSome = decide (0 < pvW i) := by
  have hcase : i = 0 ∨ i = 1 ∨ i = 2 ∨ i = 3 ∨ i = 4 ∨ i = 5 := by omega
  rcases hcase with rfl | rfl | rfl | rfl | rfl | rfl
  · exact ⟨rfl, rfl⟩
  · exact ⟨rfl, rfl⟩
  · exact ⟨rfl, rfl⟩
  · exact absurd rfl hk
  · exact ⟨rfl, rfl⟩
  · exact ⟨rfl, rfl⟩
theorem Tre.Ok.only {t : Tre} (h : t.Ok) (h0 : (t.nd 0).lv = 0) {p : Nat} (hp : t.inn p) : p = 0 := by
  rcases Nat.eq_zero_or_pos p with e | e
  · exact e
  · have h1 := h.top p hp (by omega)
    have h2 := (right_bd _ (h.rt p hp)).1
    omega
theorem lop_step (w0 : World) (htab : Tab w0) {i : Nat} (hi6 : i < 6) {N0 : Int} (hN : 0 ≤ N0) (hN1 : N0 ≤ 80000000) {x : Wd} (hx : LoP w0.heap.size i N0 x) {j : Nat} (hb : x.bs[0]? = some (j : Int)) (fr : List As) (W : World) (hM : M w0 w0.heap.size W (x.as ++ fr)) :
    Calls Tryz.prog 28 #[.pointer (some ⟨w0.heap.size, 0, none⟩), .int .i64 0] W fun e w' => (∃ u, e = .returned u) ∧ ∃ x', LoP w0.heap.size i N0 x' ∧ (if x'.bs[0]? = some (-1) then 0 else if x'.now = N0 then 2 else 1) < (if x.bs[0]? = some (-1) then 0 else if x.now = N0 then 2 else 1) ∧ M w0 w0.heap.size w' (x'.as ++ fr) := by
  obtain ⟨t, S, o, d, h, hlen, hoth, hd, hx⟩ := hx
  rcases hx with ⟨hb0, he, hk, hkey, hv, hT, hlv, hst⟩ | ⟨hb0, -⟩
  case inr => rw [hb] at hb0; exact absurd hb0 ne_neg
  have hnow : x.now ≤ 90000000 := by rcases hst with h1 | h1 <;> omega
  have P : Mov false w0.heap.size x t S o 0 i d := ⟨h, by omega, hb0, hd, he, hnow⟩
  have L := P.live
  have hbl : 0 < x.bs.length := by rw [h.bsl]; omega
  have hil : i < x.ds.length := by omega
  have hnn : ∀ (a : List Int), x.bs[0]? = some (i : Int) → (if x.bs[0]? = some (-1) then 0 else if x.now = N0 then 2 else 1 : Nat) = if x.now = N0 then 2 else 1 := fun _ e => by rw [e, if_neg ne_neg]
  have rk0 : (if (x.bs.set 0 (-1))[0]? = some (-1) then 0 else if x.now + 1 = N0 then 2 else 1 : Nat) = 0 := by rw [List.getElem?_set_self hbl, if_pos rfl]
  rw [hnn [] hb0]
  have hothF : ∀ c, c < 64 → c ≠ 0 → (x.bs.set 0 (-1))[c]? = some (-1) := fun c hc h0 => by rw [List.getElem?_set_ne (Ne.symm h0)]; exact hoth c hc h0
  have hr0 : rightB (t.nd 0) = true := h.tok.rt 0 h.tok.r0
  have hks := pv_ks hr0 hT.2
  have hh0 := h.tok.h0
  have hwb := L.ok.want
  have nogo : ¬ rdGo (S i) (t.nd 0) := by unfold rdGo; have := hT.1; omega
  rcases hst with ⟨hsw, hn0⟩ | ⟨hsw, hV, hn0⟩
  · obtain ⟨p, tx, ver, R⟩ := P.rdPg hsw
    obtain rfl : p = 0 := h.tok.only hT.1 R.inn
    have rk2 : (if x.now = N0 then 2 else 1 : Nat) = 2 := if_pos hn0
    rw [rk2]
    have hkc := L.ok.rng
    have hkS := L.kd
    rcases (show (S i).kd = 1 ∨ (S i).kd = 4 ∨ ((S i).kd = 2 ∨ (S i).kd = 3) by omega) with hk1 | hk4 | hk23
    · obtain ⟨a1, a2⟩ := P.rd_get hsw R.pg R.p64 R.U R.T R.V R.un R.v0 nogo hk1
      have C := P.run_fin (by omega) a1 fr w0 W w0.heap.size htab rfl hM
      refine C.mono ?_
      rintro e w' ⟨hu, tm, kv, vv, cv, hM'⟩
      refine ⟨hu, _, ⟨t, _, o, _, a2 tm kv vv cv _, by show (x.ds.set i _).length = _; rw [List.length_set]; exact hlen, hothF, List.getElem?_set_self hil, Or.inr ⟨List.getElem?_set_self hbl, rfl, ?_, ?_, ⟨hT.1, fun q => (hT.2 q).trans (pv_same i hi6 (Or.inl (by omega)) q)⟩, by show x.now + 1 ≤ _; omega⟩⟩, ?_, hM'⟩
      · show (lmap (t.nd 0) d.key).getD 0 = pvW i
        rw [hT.2, hkey]; exact (pv_ans i hi6 (by omega)).1
      · show (lmap (t.nd 0) d.key).isSome = _
        rw [hT.2, hkey]; exact (pv_ans i hi6 (by omega)).2
      · rw [rk0]; omega
    · have hi3 : i = 3 := by
        have hcase : i = 0 ∨ i = 1 ∨ i = 2 ∨ i = 3 ∨ i = 4 ∨ i = 5 := by omega
        rcases hcase with rfl | rfl | rfl | rfl | rfl | rfl
        · exact absurd (show (1 : Int) = 4 from (hk.symm.trans hkS.symm).trans hk4) (by decide)
        · exact absurd (show (2 : Int) = 4 from (hk.symm.trans hkS.symm).trans hk4) (by decide)
        · exact absurd (show (1 : Int) = 4 from (hk.symm.trans hkS.symm).trans hk4) (by decide)
        · rfl
        · exact absurd (show (3 : Int) = 4 from (hk.symm.trans hkS.symm).trans hk4) (by decide)
        · exact absurd (show (1 : Int) = 4 from (hk.symm.trans hkS.symm).trans hk4) (by decide)
      subst hi3
      have Q : ScW false w0.heap.size x t S o 0 3 d 0 tx ver := ⟨P, R, nogo, hk4⟩
      have hone := one_key hr0 fun q => by rw [hT.2]; rfl
      have hval : (S 3).val = 9 := by rw [L.val, hk, hv]; rfl
      have hkey2 : (S 3).key = 1 := by rw [L.key, hkey]; rfl
      obtain ⟨s1, s2⟩ := L.sc hk4
      have hbel : (S 3).bel = [] := by
        cases hbb : (S 3).bel with
        | nil => rfl
        | cons b r =>
          obtain ⟨q, q1, q2, -⟩ := s2 b (by rw [hbb]; simp)
          exact absurd (h.tok.only hT.1 q1) q2
      have hwant : wantV (S 3) = 1 := by rw [want_from hlv, hbel]; exact hkey2
      have hkeys : (S 3).keys = [] := by
        cases hkk : (S 3).keys with
        | nil => rfl
        | cons b r =>
          have := s1.inn b (by rw [hkk]; simp)
          rw [hbel] at this
          have e : fromV [] (S 3).key 0 = (S 3).key := rfl
          rw [List.length_nil, e] at this
          omega
      have hsc : scK (S 3) (t.nd 0) = [5] := by
        unfold scK
        rw [hone, hwant, hval, hkeys]; rfl
      have hend : scEnd (S 3) (t.nd 0) = true := by
        have : scB (S 3) (t.nd 0) = (S 3).val + 1 := by
          unfold scB
          rw [hsc, if_neg (by decide), if_pos (by omega)]
        unfold scEnd
        rw [this]; simp
      obtain ⟨a1, a2⟩ := Q.rd_end hend
      have C := P.run_fin (by omega) a1 fr w0 W w0.heap.size htab rfl hM
      refine C.mono ?_
      rintro e w' ⟨hu, tm, kv, vv, cv, hM'⟩
      refine ⟨hu, _, ⟨t, _, o, _, a2 tm kv vv cv _, by show (x.ds.set 3 _).length = _; rw [List.length_set]; exact hlen, hothF, List.getElem?_set_self hil, Or.inr ⟨List.getElem?_set_self hbl, rfl, ?_, ?_, ⟨hT.1, fun q => (hT.2 q).trans (pv_same 3 hi6 (Or.inr rfl) q)⟩, by show x.now + 1 ≤ _; omega⟩⟩, ?_, hM'⟩
      · show ((scK (S 3) (t.nd 0)).length : Int) = 1
        rw [hsc]; rfl
      · show decide (0 < (scK (S 3) (t.nd 0)).length) = decide (0 < (1 : Int))
        rw [hsc]; rfl
      · rw [rk0]; omega
    · have hnn9 : ¬ (crwB (t.nd 0) (S i) = true ∧ (S i).lv = 9) := fun e => by have := e.2; omega
      have hfound : (S i).kd = 2 ∨ ((S i).kd = 3 ∧ lmap (t.nd 0) d.key ≠ none) := by
        rcases hk23 with h1 | h1
        · exact Or.inl h1
        · refine Or.inr ⟨h1, ?_⟩
          have hcase : i = 0 ∨ i = 1 ∨ i = 2 ∨ i = 3 ∨ i = 4 ∨ i = 5 := by omega
          rcases hcase with rfl | rfl | rfl | rfl | rfl | rfl
          · exact absurd (show (1 : Int) = 3 from (hk.symm.trans hkS.symm).trans h1) (by decide)
          · exact absurd (show (2 : Int) = 3 from (hk.symm.trans hkS.symm).trans h1) (by decide)
          · exact absurd (show (1 : Int) = 3 from (hk.symm.trans hkS.symm).trans h1) (by decide)
          · exact absurd (show (4 : Int) = 3 from (hk.symm.trans hkS.symm).trans h1) (by decide)
          · rw [hT.2, hkey]
            show (some (50 : Int)) ≠ none
            exact fun e => by cases e
          · exact absurd (show (1 : Int) = 3 from (hk.symm.trans hkS.symm).trans h1) (by decide)
      obtain ⟨a1, a2, -⟩ := P.rd_see (m := fun _ => 0) R nogo hfound hnn9
      have C := P.run_on (by omega) a1 fr w0 W w0.heap.size htab rfl hM
      refine C.mono ?_
      rintro e w' ⟨hu, tm, f, hf, hM'⟩
      refine ⟨hu, _, ⟨t, _, o, _, a2 tm f _ hf, by show (x.ds.set i _).length = _; rw [List.length_set]; exact hlen, hoth, List.getElem?_set_self hil, Or.inl ⟨hb0, he, hk, hkey, hv, hT, ?_, Or.inr ⟨?_, ?_, by show x.now + 1 = _; omega⟩⟩⟩, ?_, hM'⟩
      · have e : upS S i { seeS (S i) tx ver with step := (S i).step + 1 } i = { seeS (S i) tx ver with step := (S i).step + 1 } := if_pos rfl
        rw [e]; exact hlv
      · have e : upS S i { seeS (S i) tx ver with step := (S i).step + 1 } i = { seeS (S i) tx ver with step := (S i).step + 1 } := if_pos rfl
        rw [e]; exact unp_ne R.un
      · have e : upS S i { seeS (S i) tx ver with step := (S i).step + 1 } i = { seeS (S i) tx ver with step := (S i).step + 1 } := if_pos rfl
        rw [e]; exact R.V
      · show (if x.bs[0]? = some (-1) then 0 else if x.now + 1 = N0 then 2 else 1 : Nat) < 2
        rw [hb0, if_neg ne_neg, if_neg (by omega)]; omega
  · obtain ⟨n, Wn⟩ := L.wr hsw
    have hp0 : (S i).pg.toNat = 0 := h.tok.only hT.1 L.way.inn
    have hn : n = t.nd 0 := by
      obtain ⟨c, c1, c2, c3, c4⟩ := Wn.cur
      rw [hp0] at c1 c4
      rw [hV] at c1
      have hTx := c4 (Option.some.inj c1).symm
      obtain ⟨-, -, tx, hTx2, hun⟩ := h.say 0 h.tok.r0
      rw [hTx] at hTx2
      have e := Option.some.inj hTx2
      rw [← e] at hun
      exact Wn.pl.un.uniq hun
    subst hn
    have hI := chi_of L.ok hr0 Wn.pl.lv Wn.pl.kd Wn.pl.w2
    have hnc : crwB (t.nd 0) (S i) = false := by
      cases hc : crwB (t.nd 0) (S i) with
      | false => rfl
      | true =>
        have h1 := (crowd_len hI hc).1 hT.1
        have h2 := (cg_count hI).1
        omega
    have hpg : pgsN (t.nd 0) (S i) = 0 := by unfold pgsN; rw [if_neg (by rw [hnc]; decide)]
    have hla : (S i).laid = pgsN (t.nd 0) (S i) := by have := Wn.pl.laid; have := L.ok.laid0; omega
    obtain ⟨p, hnp, Q⟩ := P.swP hsw Wn hla (by rw [hp0]; exact hV)
    obtain rfl : p = 0 := h.tok.only hT.1 Q.inn
    obtain ⟨t', N, A⟩ := Q.turn
    obtain ⟨a1, a2, -⟩ := Q.end0 A (by omega) hlv
    have hk23 : pvK i = 2 ∨ pvK i = 3 := by rw [← hk, ← L.kd]; exact Wn.pl.kd
    have hvs : valS d.k d.v = d.v ∨ d.k = 3 := by
      rcases hk23 with h1 | h1
      · left; unfold valS; rw [if_neg (by omega)]
      · right; omega
    have C := P.run_fin (by omega) a1 fr w0 W w0.heap.size htab rfl hM
    refine C.mono ?_
    rintro e w' ⟨hu, tm, kv, vv, cv, hM'⟩
    have hnd : t'.nd 0 = cg (t.nd 0) (S i).kd (wantV (S i)) (entV (S i)) := by rw [A.tu.at_]; exact nxt_chg hnc
    have hent : entV (S i) = valS d.k d.v := by unfold entV; rw [if_neg (by omega)]; exact L.val
    have hwk : wantV (S i) = d.key := by rw [L.ok.wkey hlv (by have := Wn.pl.kd; omega), L.key]
    refine ⟨hu, _, ⟨t', _, _, _, a2 tm kv vv cv _, by show (x.ds.set i _).length = _; rw [List.length_set]; exact hlen, hothF, List.getElem?_set_self hil, Or.inr ⟨List.getElem?_set_self hbl, rfl, ?_, ?_, ⟨by rw [hnd]; exact hT.1, fun q => ?_⟩, by show x.now + 1 ≤ _; omega⟩⟩, ?_, hM'⟩
    · show (lmap (t.nd 0) d.key).getD 0 = pvW i
      rw [hT.2, hkey]; exact (pv_ans i hi6 (by omega)).1
    · show (lmap (t.nd 0) d.key).isSome = _
      rw [hT.2, hkey]; exact (pv_ans i hi6 (by omega)).2
    · rw [hnd, cg_look hI, ← pv_next i hi6 hk23 q, hwk, hent, L.kd, hkey, hk]
      have hmm : lmap (t.nd 0) = pvM i := funext hT.2
      rw [hmm]
      rw [hk] at hvs
      rcases hvs with h1 | h1
      · rw [h1, hv]
      · rw [h1]; exact congrFun (upd_drop _ _ _ _) q
    · rw [rk0]
      split <;> omega
theorem pvd (w0 : World) (htab : Tab w0) : Pvd (PvI w0.heap.size) (PbI w0.heap.size) w0.heap.size w0 w0.heap.size where
  pg := fun i x ⟨_, _, _, h, _⟩ => h.pg
  pb := fun i x ⟨_, _, _, ⟨_, _, _, _, h, _⟩, _⟩ => h.pg
  bg := fun i x W fr hi ⟨t, S, o, h, hid, hn, hl, hT⟩ hM => by
    have ho : opR (pvK i) (pvY i) (pvV i) = true := by
      have : i = 0 ∨ i = 1 ∨ i = 2 ∨ i = 3 ∨ i = 4 ∨ i = 5 := by omega
      rcases this with rfl | rfl | rfl | rfl | rfl | rfl <;> decide
    have hp := h.puts
    have C := begin_step x 0 (pvK i) (pvY i) (pvV i) fr w0 W w0.heap.size htab rfl (by omega) (by omega) hp.1 (by omega) ho hM
    rw [h.pg] at C
    refine C.mono ?_
    rintro e w' ⟨hu, gd, kg, kc, f, dv, hf, hM'⟩
    have h9 := h.begun (by omega) (hid 0 (by omega)) ho gd kg kc f dv hf
    rw [h.pg] at h9
    have hb0 : (x.bs.set 0 (x.ds.length : Int))[0]? = some (i : Int) := by rw [List.getElem?_set_self (by rw [h.bsl]; omega), hl]
    refine ⟨hu, _, ⟨x.now, h.now, hn, ⟨t, _, o, Dd.new gd kg kc (pvK i) (pvY i) (pvV i) f, h9, by show (x.ds ++ [_]).length = _; rw [List.length_append, List.length_singleton, hl], fun c hc h0 => ?_, ?_, Or.inl ⟨hb0, rfl, rfl, rfl, rfl, hT, ?_, Or.inl ⟨?_, rfl⟩⟩⟩, hb0⟩, hM'⟩
    · show (x.bs.set 0 (x.ds.length : Int))[c]? = some (-1)
      rw [List.getElem?_set_ne (Ne.symm h0)]; exact hid c hc
    · show (x.ds ++ [Dd.new gd kg kc (pvK i) (pvY i) (pvV i) f])[i]? = _
      rw [← hl, List.getElem?_append_right (Nat.le_refl _), Nat.sub_self]; rfl
    · have e : upS S x.ds.length (bgS (pvK i) (pvY i) (pvV i)) i = bgS (pvK i) (pvY i) (pvV i) := if_pos hl.symm
      rw [e]; rfl
    · have e : upS S x.ds.length (bgS (pvK i) (pvY i) (pvV i)) i = bgS (pvK i) (pvY i) (pvV i) := if_pos hl.symm
      rw [e]; rfl
  al := fun i x W fr hi ⟨N0, hN0, hN1, hL, hb⟩ hM => by
    refine (alone_gen 0 w0.heap.size (LoP w0.heap.size i N0) (fun x => if x.bs[0]? = some (-1) then 0 else if x.now = N0 then 2 else 1) fr w0 W w0.heap.size x (by omega) (fun x hx => ?_) (fun x hx => ?_) (fun x j W hx hb hW => lop_step w0 htab hi hN0 (by omega) hx hb fr W hW) hL ?_ hM).mono ?_
    · obtain ⟨_, _, _, _, h, _⟩ := hx; exact h.pg
    · obtain ⟨_, _, _, _, _, _, _, _, hx⟩ := hx
      rcases hx with ⟨h1, -⟩ | ⟨h1, -⟩
      · refine Or.inr ⟨⟨i, h1⟩, ?_⟩
        show 0 < (if x.bs[0]? = some (-1) then 0 else if x.now = N0 then 2 else 1 : Nat)
        rw [h1, if_neg ne_neg]
        split <;> omega
      · exact Or.inl h1
    · show (if x.bs[0]? = some (-1) then 0 else if x.now = N0 then 2 else 1 : Nat) ≤ 1000
      split
      · omega
      · split <;> omega
    · rintro e w' ⟨hu, x', ⟨t, S, o, d, h, hlen, hoth, hd, hx⟩, hb', hM'⟩
      rcases hx with ⟨h1, -⟩ | ⟨-, h2, h3, h4, hT, hn⟩
      · rw [hb'] at h1; have := Option.some.inj h1; omega
      · refine ⟨hu, x', i, d, ⟨t, S, o, h, fun c hc => ?_, by omega, hlen, hT⟩, hlen, by omega, hd, h2, h3, h4, hM'⟩
        by_cases h0 : c = 0
        · rw [h0]; exact hb'
        · exact hoth c hc h0
theorem good_ex : ∃ rk, Good (InvG false) rk := by
  obtain ⟨rk, hrk⟩ := mc_ex
  exact ⟨rk, fun W ht => ⟨PvI W.heap.size, PbI W.heap.size, pvd W ht, fun tg tc ug uc vg vc bg bc => ⟨_, _, _, inv_first W.heap.size tg tc ug uc vg vc bg bc, fun c hc => by show (List.replicate 64 (-1 : Int))[c]? = _; rw [List.getElem?_replicate, if_pos hc], Int.le_refl _, rfl, rfl, fun q => rfl⟩⟩,
    fun W ht => hrk false (fun e => by cases e) W ht,
    fun gw tg tc ug uc vg vc bg bc => ⟨⟨_, _, _, inv_first gw tg tc ug uc vg vc bg bc, Xtr.first _ _, FulX.first gw tg tc ug uc vg vc bg bc _⟩, by show (0 : Nat) ≤ _; omega⟩,
    fun gw x ⟨⟨_, _, _, h, _⟩, _⟩ => h.ov,
    fun gw x ⟨⟨_, _, _, h, _⟩, _⟩ hid hn => h.over hid hn⟩
theorem Scn.up {o : List Dn} {ts : List Int} {key val : Int} {keys vals bel pts : List Int} (h : Scn o ts key val keys vals bel pts) (d j : Nat) (hj : j + d ≤ bel.length) : fromV bel key j ≤ fromV bel key (j + d) := by
  induction d with
  | zero => exact Int.le_refl _
  | succ d ih => have := ih (by omega); have := (h.bp (j + d) (by omega)).1; rw [← Nat.add_assoc]; omega
end Go.Proofs.YtajobgmnmbnhiaaGreatDoor.Sap
