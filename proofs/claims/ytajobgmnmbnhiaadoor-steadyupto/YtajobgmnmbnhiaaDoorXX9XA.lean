/- WHAT IS PROVED HERE: what holds of the world at any time of a script (Inv): the pages are a tree whose leaves have what the operations that took effect have made; what each operation that is under way knows; what each that has ended has answered; and that an access keeps it, if the operation that moves keeps its own part (no program's function is walked). Conditions: none but those named at each theorem. -/
import Derived.Test.YtajobgmnmbnhiaaDoorXK4K6
import Derived.Test.YtajobgmnmbnhiaaDoorXN6N8
import Derived.Test.YtajobgmnmbnhiaaDoorXV12X5
import Derived.Test.YtajobgmnmbnhiaaDoorXX6X8
namespace Go.Proofs.YtajobgmnmbnhiaaDoor.Sap
open Go.RowKit

/-- The value that a frame bears. -/
def valS (k v : Int) : Int := if k = 1 ∨ k = 3 then 0 else v
/-- The pages that an operation has made, and to which nothing leads. -/
structure SprOk (t : Tre) (U : List Bool) (V kns : List Int) (s : St) : Prop where
  nd : s.sp.Nodup
  ok : ∀ (j : Nat) (a : Int), s.sp[j]? = some a → ∃ p : Nat, a = (p : Int) ∧ 1 ≤ p ∧ p < 64 ∧ ¬ t.inn p ∧ U[p]? = some true ∧ ∃ v, s.sv[j]? = some v ∧ V[p]? = some v ∧ kns[p]? = some v
/-- A Put that took effect, and has a node to enter. -/
structure Ent (t : Tre) (o : List Dn) (s : St) (d : Dd) : Prop where
  ch : t.kid s.lv (s.low, s.ch)
  pt : 0 ≤ s.pt ∧ s.pt < d.ts.length
  no : mapO (ahead o (d.ts[s.pt.toNat]?.getD 0)) d.key = none
/-- An operation that is to write. -/
structure Wr (T : List ByteArray) (V kns : List Int) (s : St) (n : Nd) : Prop where
  pl : PlOk n s
  kn : kns[s.pg.toNat]? = some s.ver
  cur : ∃ c, V[s.pg.toNat]? = some c ∧ 0 ≤ s.ver ∧ s.ver ≤ c ∧ (c = s.ver → T[s.pg.toNat]? = some s.sw)
  l9 : ¬ (crwB n s = true ∧ s.lv = 9)
  rgt : 1 ≤ s.laid → ∃ (r : Nat) (tx : ByteArray), s.sp[0]? = some (r : Int) ∧ T[r]? = some tx ∧ Unp tx.data.toList (rgtN (chgN n s) (lowV n s))
  lft : s.laid = 2 → ∃ (l r : Nat) (tx : ByteArray), s.sp[1]? = some (l : Int) ∧ s.sp[0]? = some (r : Int) ∧ T[l]? = some tx ∧ Unp tx.data.toList (lftN (chgN n s) (lowV n s) r)
/-- An operation that is under way. -/
structure Live (t : Tre) (T : List ByteArray) (U : List Bool) (V : List Int) (o : List Dn) (s : St) (d : Dd) : Prop where
  live : d.live
  ok : StOk s
  f : d.f.data.toList = frT s
  kd : s.kd = d.k
  key : s.key = d.key
  val : s.val = valS d.k d.v
  step : s.step = d.ts.length
  spr : SprOk t U V d.kns s
  ent : 0 < s.lv → Ent t o s d
  way : Way t s.pg.toNat s.lv (wantV s)
  wr : s.sw ≠ ⟨#[]⟩ → ∃ n, Wr T V d.kns s n
  sc : s.kd = 4 → Scn o d.ts s.key s.val s.keys s.vals s.bel s.pts ∧ ∀ b ∈ s.bel, ∃ q, t.inn q ∧ q ≠ 0 ∧ (t.nd q).lv = 0 ∧ t.low q = b

/-- When it took effect. -/
def Dd.at (d : Dd) : Int := d.ts[d.pt.toNat]?.getD 0
/-- A Scan's answer. -/
structure Scanned (o : List Dn) (d : Dd) (bel pts : List Int) : Prop where
  er : d.er = 0
  fd : d.fd = decide (0 < d.ks.length)
  va : d.va = d.ks.length
  cs : d.cs = bel.zip pts
  sc : Scn o d.ts d.key d.v d.ks d.vs bel pts
  b0 : 0 < bel.length
  b64 : bel.length ≤ 64
  pt : pts.getLast? = some d.pt
  k12 : d.ks.length ≤ 12
  en : (d.ks.length = 12 ∧ fromV bel d.key bel.length = d.ks.getLast?.getD 0 + 1) ∨ (d.ks.length < 12 ∧ fromV bel d.key bel.length = d.v + 1)
/-- An operation that has ended. -/
structure Ended (o : List Dn) (now : Int) (d : Dd) : Prop where
  p : ∃ p : Nat, d.pt = (p : Int) ∧ p < d.ts.length
  an : (d.k = 4 ∧ ∃ bel pts, Scanned o d bel pts) ∨
    (d.k ≠ 4 ∧ d.ks = [] ∧ d.vs = [] ∧ d.cs = [] ∧ ((d.er = 4 ∧ d.k = 2 ∧ d.fd = false ∧ d.va = 0) ∨ (d.er = 0 ∧ d.fd = (mapO (ahead o d.at) d.key).isSome ∧ d.va = (mapO (ahead o d.at) d.key).getD 0)))
/-- What an operation has done, ended or not. -/
def effD (s : St) (d : Dd) : Option Dn := if d.en then tkD d else if 0 < s.lv then some ⟨d.ts[s.pt.toNat]?.getD 0, d.k, d.key, d.v⟩ else none
def effA (S : Nat → St) (ds : List Dd) (i : Nat) : Option Dn := (ds[i]?).bind (effD (S i))
def effs (S : Nat → St) (ds : List Dd) : List Dn := (List.range ds.length).filterMap (effA S ds)
def upS (S : Nat → St) (i : Nat) (s : St) : Nat → St := fun j => if j = i then s else S j

theorem fm_same {α : Type} (E E' : Nat → Option α) (n : Nat) (h : ∀ j, j < n → E' j = E j) : (List.range n).filterMap E' = (List.range n).filterMap E := by
  induction n with
  | zero => rfl
  | succ n ih =>
    rw [List.range_succ, List.filterMap_append, List.filterMap_append, ih fun j hj => h j (by omega)]
    congr 1
    rw [List.filterMap_cons, List.filterMap_cons, h n (by omega)]
    rfl
theorem fm_new {α : Type} (E E' : Nat → Option α) (n i : Nat) (e : α) (hi : i < n) (h0 : E i = none) (h1 : E' i = some e) (h : ∀ j, j ≠ i → E' j = E j) : ((List.range n).filterMap E ++ [e]).Perm ((List.range n).filterMap E') := by
  induction n with
  | zero => omega
  | succ n ih =>
    rw [List.range_succ, List.filterMap_append, List.filterMap_append]
    rcases Nat.lt_or_ge i n with hin | hin
    · have e1 : List.filterMap E' [n] = List.filterMap E [n] := by rw [List.filterMap_cons, List.filterMap_cons, h n (by omega)]; rfl
      rw [e1, List.append_assoc]
      refine (List.Perm.append_left _ List.perm_append_comm).trans ?_
      rw [← List.append_assoc]
      exact List.Perm.append_right _ (ih hin)
    · obtain rfl : i = n := by omega
      rw [fm_same E E' i fun j hj => h j (by omega)]
      have e1 : List.filterMap E [i] = [] := by simp [h0]
      have e2 : List.filterMap E' [i] = [e] := by simp [h1]
      rw [e1, e2, List.append_nil]

structure DdOk (t : Tre) (T : List ByteArray) (U : List Bool) (V : List Int) (o : List Dn) (now : Int) (s : St) (d : Dd) : Prop where
  op : opR d.k d.key d.v = true
  nt : (d.ts.length : Int) ≤ now
  lt : ∀ τ ∈ d.ts, 0 ≤ τ ∧ τ < now
  tp : d.ts.Pairwise (· < ·)
  kl : d.kns.length = 64
  lv : d.en = false → Live t T U V o s d
  ed : d.en = true → Ended o now d
/-- What holds at any time. -/
structure Inv (wt : Bool) (gw : Nat) (x : Wd) (t : Tre) (S : Nat → St) (o : List Dn) : Prop where
  pg : x.gw = gw
  kp : x.kp = false
  wt : x.wt = wt
  ov : x.ov = .slice none 0 0
  tl : x.T.length = 64
  ul : x.U.length = 64
  vl : x.V.length = 64
  tok : t.Ok
  lf : Leafs t (mapO o)
  say : ∀ p, t.inn p → Says x.T x.U p (t.nd p)
  us : ∀ p : Nat, x.U[p]? = some true → ∃ n, Says x.T x.U p n
  vb : ∀ (p : Nat) v, x.V[p]? = some v → 0 ≤ v ∧ v ≤ x.now
  now : 0 ≤ x.now
  puts : 0 ≤ x.puts ∧ x.puts ≤ x.ds.length
  bsl : x.bs.length = 64
  bs : ∀ c, c < 64 → x.bs[c]? = some (-1) ∨ ∃ (i : Nat) (d : Dd), x.bs[c]? = some (i : Int) ∧ x.ds[i]? = some d ∧ d.en = false
  inj : ∀ (c c' i : Nat), x.bs[c]? = some (i : Int) → x.bs[c']? = some (i : Int) → c = c'
  ds : ∀ (i : Nat) (d : Dd), x.ds[i]? = some d → DdOk t x.T x.U x.V o x.now (S i) d
  apart : ∀ (i j : Nat) (d e : Dd), x.ds[i]? = some d → x.ds[j]? = some e → d.en = false → e.en = false → i ≠ j → ∀ a ∈ (S i).sp, a ∉ (S j).sp
  own : ∀ (i : Nat) (d : Dd), x.ds[i]? = some d → d.en = false → ∃ c, c < 64 ∧ x.bs[c]? = some (i : Int)
  os : o.Pairwise fun a b => a.t < b.t
  op : o.Perm (effs S x.ds)
  ot : ∀ e ∈ o, e.t < x.now
  ok : ∀ e ∈ o, e.k = 2 ∨ e.k = 3

/-- What an access makes of the pages and of the tree, as those see it that do not move; s: the state of the one that moves. -/
structure Chg (now : Int) (t t' : Tre) (s : St) (T T' : List ByteArray) (U U' : List Bool) (V V' : List Int) (o' : List Dn) : Prop where
  ok : t'.Ok
  gr : Grows t t'
  tl : T'.length = 64
  ul : U'.length = 64
  vl : V'.length = 64
  say : ∀ p, t'.inn p → Says T' U' p (t'.nd p)
  us : ∀ p : Nat, U'[p]? = some true → ∃ n, Says T' U' p n
  vb : ∀ (p : Nat) v, V'[p]? = some v → 0 ≤ v ∧ v ≤ now + 1
  lf : Leafs t' (mapO o')
  uu : ∀ p : Nat, U[p]? = some true → U'[p]? = some true
  q : ∃ q : Nat, (∀ p : Nat, p ≠ q → T'[p]? = T[p]? ∧ V'[p]? = V[p]?) ∧ ((q : Int) ∈ s.sp ∨ U[q]? = some false ∨ (t.inn q ∧ ∃ v, V[q]? = some v ∧ V'[q]? = some (v + 1)) ∨ (T' = T ∧ V' = V))
  new : ∀ p, t'.inn p → t.inn p ∨ (p : Int) ∈ s.sp

theorem Chg.none {now : Int} {t : Tre} {s : St} {T : List ByteArray} {U : List Bool} {V : List Int} {o : List Dn} (ok : t.Ok) (tl : T.length = 64) (ul : U.length = 64) (vl : V.length = 64) (say : ∀ p, t.inn p → Says T U p (t.nd p)) (us : ∀ p : Nat, U[p]? = some true → ∃ n, Says T U p n) (vb : ∀ (p : Nat) v, V[p]? = some v → 0 ≤ v ∧ v ≤ now) (lf : Leafs t (mapO o)) : Chg now t t s T T U U V V o :=
  ⟨ok, Grows.refl t, tl, ul, vl, say, us, fun p v h => by have := vb p v h; omega, lf, fun _ h => h, ⟨0, fun _ _ => ⟨rfl, rfl⟩, Or.inr (Or.inr (Or.inr ⟨rfl, rfl⟩))⟩, fun _ h => Or.inl h⟩

theorem kid_mono {t t' : Tre} (g : Grows t t') {l : Int} {e : Int × Int} (h : t.kid l e) (h0 : e.2 ≠ 0) : t'.kid l e := by
  obtain ⟨q, h1, h2, h3, h4⟩ := h
  have hq : q ≠ 0 := fun e => h0 (by rw [h1, e]; rfl)
  exact ⟨q, h1, g.inn q h2, by rw [g.low q h2]; exact h3, by rw [g.lvE q h2 hq]; exact h4⟩
theorem StOk.pgN {s : St} (h : StOk s) : ∃ p : Nat, s.pg = (p : Int) ∧ p < 64 ∧ s.pg.toNat = p := ⟨s.pg.toNat, by have := h.pg; omega, by have := h.pg; omega, rfl⟩
theorem ent_mono {t t' : Tre} (g : Grows t t') {o o' : List Dn} {s : St} {d d' : Dd} (hs : StOk s) (hl : 0 < s.lv) (h : Ent t o s d) (hk : d'.key = d.key) (hts : d'.ts = d.ts ∨ ∃ now, d'.ts = d.ts ++ [now]) (ha : ∀ τ ∈ d.ts, ahead o' τ = ahead o τ) : Ent t' o' s d' := by
  have e1 : d'.ts[s.pt.toNat]?.getD 0 = d.ts[s.pt.toNat]?.getD 0 := by
    rcases hts with e | ⟨now, e⟩
    · rw [e]
    · rw [e]; exact ts_more h.pt
  refine ⟨kid_mono g h.ch ?_, ⟨h.pt.1, ?_⟩, ?_⟩
  · rcases hs.ent with h1 | h1
    · omega
    · show s.ch ≠ 0; omega
  · have := h.pt.2
    rcases hts with e | ⟨now, e⟩
    · rw [e]; exact this
    · rw [e, List.length_append, List.length_singleton]; omega
  · rw [e1, ha _ (ts_mem h.pt), hk]; exact h.no
theorem bel_mono {t t' : Tre} (g : Grows t t') {bel : List Int} (h : ∀ b ∈ bel, ∃ q, t.inn q ∧ q ≠ 0 ∧ (t.nd q).lv = 0 ∧ t.low q = b) : ∀ b ∈ bel, ∃ q, t'.inn q ∧ q ≠ 0 ∧ (t'.nd q).lv = 0 ∧ t'.low q = b := fun b hb => by
  obtain ⟨q, h1, h2, h3, h4⟩ := h b hb
  exact ⟨q, g.inn q h1, h2, by rw [g.lvE q h1 h2]; exact h3, by rw [g.low q h1]; exact h4⟩
theorem mem_sp {s : St} {a : Int} (h : a ∈ s.sp) : ∃ j : Nat, s.sp[j]? = some a := List.mem_iff_getElem?.1 h

/-- The others go on as they were. -/
theorem Live.other {now : Int} {t t' : Tre} {s : St} {T T' : List ByteArray} {U U' : List Bool} {V V' : List Int} {o o' : List Dn} (C : Chg now t t' s T T' U U' V V' o') {kns : List Int} (hs : SprOk t U V kns s) (say : ∀ p, t.inn p → Says T U p (t.nd p)) {s2 : St} {d : Dd} (h : Live t T U V o s2 d) (hap : ∀ a ∈ s.sp, a ∉ s2.sp) (ha : ∀ τ ∈ d.ts, ahead o' τ = ahead o τ) : Live t' T' U' V' o' s2 d := by
  obtain ⟨q, hq1, hq2⟩ := C.q
  have spq : ∀ (j : Nat) (p : Nat), s2.sp[j]? = some (p : Int) → ¬ t'.inn p ∧ U'[p]? = some true ∧ (T'[p]? = T[p]? ∧ V'[p]? = V[p]?) := fun j p hj => by
    have hm : (p : Int) ∈ s2.sp := List.mem_of_getElem? hj
    obtain ⟨p', e, h1, h2, h3, h4, -⟩ := h.spr.ok j _ hj
    obtain rfl : p = p' := by omega
    refine ⟨fun hi => ?_, C.uu p h4, ?_⟩
    · rcases C.new p hi with h5 | h5
      · exact h3 h5
      · exact hap _ h5 hm
    · rcases hq2 with h5 | h5 | ⟨h5, -⟩ | ⟨h5, h6⟩
      · exact hq1 p fun e => hap _ h5 (e ▸ hm)
      · exact hq1 p fun e => by subst e; rw [h4] at h5; cases h5
      · exact hq1 p fun e => h3 (e ▸ h5)
      · rw [h5, h6]; exact ⟨rfl, rfl⟩
  refine ⟨h.live, h.ok, h.f, h.kd, h.key, h.val, h.step, ⟨h.spr.nd, fun j a hj => ?_⟩, fun hl => ent_mono C.gr h.ok hl (h.ent hl) rfl (Or.inl rfl) ha, h.way.mono C.gr, fun hw => ?_, fun hk => ?_⟩
  · obtain ⟨p, rfl, h1, h2, h3, h4, v, h5, h6, h7⟩ := h.spr.ok j a hj
    obtain ⟨k1, k2, k3, k4⟩ := spq j p hj
    exact ⟨p, rfl, h1, h2, k1, k2, v, h5, by rw [k4]; exact h6, h7⟩
  · obtain ⟨n, w⟩ := h.wr hw
    refine ⟨n, w.pl, w.kn, ?_, w.l9, fun hl => ?_, fun hl => ?_⟩
    · obtain ⟨c, c1, c2, c3, c4⟩ := w.cur
      by_cases e : s2.pg.toNat = q
      · rcases hq2 with h5 | h5 | ⟨h5, v, h6, h7⟩ | ⟨h5, h6⟩
        · obtain ⟨j, hj⟩ := mem_sp h5
          obtain ⟨p', e', -, -, h3, -⟩ := hs.ok j _ hj
          exact absurd h.way.inn (by rw [e, show q = p' by omega]; exact h3)
        · have := (say _ h.way.inn).2.1
          rw [e, h5] at this; cases this
        · rw [e] at c1 ⊢
          rw [h6] at c1
          have := Option.some.inj c1
          exact ⟨v + 1, h7, c2, by omega, fun e2 => by omega⟩
        · rw [h5, h6]; exact ⟨c, c1, c2, c3, c4⟩
      · rw [(hq1 _ e).1, (hq1 _ e).2]; exact ⟨c, c1, c2, c3, c4⟩
    · obtain ⟨r, tx, h1, h2, h3⟩ := w.rgt hl
      exact ⟨r, tx, h1, by rw [(spq 0 r h1).2.2.1]; exact h2, h3⟩
    · obtain ⟨l, r, tx, h1, h2, h3, h4⟩ := w.lft hl
      exact ⟨l, r, tx, h1, h2, by rw [(spq 1 l h1).2.2.1]; exact h3, h4⟩
  · exact ⟨(h.sc hk).1.same ha, bel_mono C.gr (h.sc hk).2⟩

theorem Ended.mono {o o' : List Dn} {now now' : Int} {d : Dd} (h : Ended o now d) (ha : ∀ τ ∈ d.ts, ahead o' τ = ahead o τ) : Ended o' now' d := by
  obtain ⟨p, hp, hp2⟩ := h.p
  have e : ahead o' d.at = ahead o d.at := ha _ (by unfold Dd.at; exact ts_mem ⟨by omega, by omega⟩)
  refine ⟨⟨p, hp, hp2⟩, ?_⟩
  rcases h.an with ⟨h1, bel, pts, S⟩ | h1
  · exact Or.inl ⟨h1, bel, pts, S.er, S.fd, S.va, S.cs, S.sc.same ha, S.b0, S.b64, S.pt, S.k12, S.en⟩
  · rw [← e] at h1; exact Or.inr h1

/-- What becomes of the order in which operations took effect. -/
def Took (s s' : St) (d d' : Dd) (now : Int) (o o' : List Dn) : Prop :=
  (effD s' d' = effD s d ∧ o' = o) ∨ (effD s d = none ∧ ∃ e, effD s' d' = some e ∧ o' = o ++ [e] ∧ e.t = now ∧ (e.k = 2 ∨ e.k = 3))
theorem Took.ahead {s s' : St} {d d' : Dd} {now : Int} {o o' : List Dn} (h : Took s s' d d' now o o') {τ : Int} (ht : τ < now) : ahead o' τ = ahead o τ := by
  rcases h with ⟨-, h⟩ | ⟨-, e, -, h, h2, -⟩
  · rw [h]
  · rw [h]; exact ahead_snoc o e τ (by omega)
theorem Took.aheadN {s s' : St} {d d' : Dd} {now : Int} {o o' : List Dn} (h : Took s s' d d' now o o') (ho : ∀ e ∈ o, e.t < now) : Sap.ahead o' now = o := by
  rcases h with ⟨-, h⟩ | ⟨-, e, -, h, h2, -⟩
  · rw [h]; exact ahead_all o now ho
  · rw [h, ahead_snoc o e now (by omega)]; exact ahead_all o now ho

/-- An access keeps what holds, if the one that moves keeps its own part. -/
theorem Inv.step {wt : Bool} {gw : Nat} {x : Wd} {t t' : Tre} {S : Nat → St} {o o' : List Dn} (h : Inv wt gw x t S o) {c i : Nat} {d d' : Dd} {s' : St} {T' : List ByteArray} {U' : List Bool} {V' : List Int} {bs' : List Int} {rf' : Bool} (hc : c < 64) (hb : x.bs[c]? = some (i : Int)) (hd : x.ds[i]? = some d) (he : d.en = false)
    (C : Chg x.now t t' (S i) x.T T' x.U U' x.V V' o') (hop : d'.k = d.k ∧ d'.key = d.key ∧ d'.v = d.v) (hts : d'.ts = d.ts ++ [x.now]) (hkl : d'.kns.length = 64)
    (hO : Took (S i) s' d d' x.now o o') (hsp : ∀ a ∈ s'.sp, a ∈ (S i).sp ∨ ∃ p : Nat, a = (p : Int) ∧ x.U[p]? = some false)
    (hL : (d'.en = false ∧ bs' = x.bs ∧ Live t' T' U' V' o' s' d') ∨ (d'.en = true ∧ bs' = x.bs.set c (-1) ∧ Ended o' (x.now + 1) d')) :
    Inv wt gw { x with T := T', U := U', V := V', bs := bs', now := x.now + 1, rf := rf', ds := x.ds.set i d' } t' (upS S i s') o' := by
  have hi := (List.getElem?_eq_some_iff.1 hd).1
  have hD := h.ds i d hd
  have hLv := hD.lv he
  have hcb : c < x.bs.length := by rw [h.bsl]; exact hc
  have hnow := h.now
  have upne : ∀ j, j ≠ i → upS S i s' j = S j := fun j hj => if_neg hj
  have upeq : upS S i s' i = s' := if_pos rfl
  have hfree : ∀ (j : Nat) (e : Dd) (p : Nat), x.ds[j]? = some e → e.en = false → (p : Int) ∈ (S j).sp → x.U[p]? ≠ some false := fun j e p hj hen hm hU => by
    obtain ⟨k, hk⟩ := mem_sp hm
    obtain ⟨p', e1, -, -, -, h4, -⟩ := ((h.ds j e hj).lv hen).spr.ok k _ hk
    rw [show p = p' by omega, h4] at hU
    cases hU
  refine ⟨h.pg, h.kp, h.wt, h.ov, C.tl, C.ul, C.vl, C.ok, C.lf, C.say, C.us, C.vb, ?_, ?_, ?_, fun k hk => ?_, fun k k' j h1 h2 => ?_, fun j e hj => ?_, fun j k e f hj hk hje hke hjk a ha => ?_, fun j e hj hen => ?_, ?_, ?_, fun e he2 => ?_, fun e he2 => ?_⟩
  · show 0 ≤ x.now + 1; omega
  · show 0 ≤ x.puts ∧ x.puts ≤ ((x.ds.set i d').length : Int); rw [List.length_set]; exact h.puts
  · show bs'.length = 64
    rcases hL with ⟨-, e, -⟩ | ⟨-, e, -⟩
    · rw [e]; exact h.bsl
    · rw [e, List.length_set]; exact h.bsl
  · show bs'[k]? = some (-1) ∨ ∃ (j : Nat) (e : Dd), bs'[k]? = some (j : Int) ∧ (x.ds.set i d')[j]? = some e ∧ e.en = false
    rcases hL with ⟨e0, e1, -⟩ | ⟨e0, e1, -⟩
    · rw [e1]
      rcases h.bs k hk with h1 | ⟨j, e, h1, h2, h3⟩
      · exact Or.inl h1
      · by_cases hji : i = j
        · subst hji
          exact Or.inr ⟨i, _, h1, List.getElem?_set_self hi, e0⟩
        · exact Or.inr ⟨j, e, h1, (List.getElem?_set_ne hji).trans h2, h3⟩
    · rw [e1]
      by_cases hkc : c = k
      · subst hkc; exact Or.inl (List.getElem?_set_self hcb)
      · rw [List.getElem?_set_ne hkc]
        rcases h.bs k hk with h1 | ⟨j, e, h1, h2, h3⟩
        · exact Or.inl h1
        · have hji : i ≠ j := fun e1 => hkc (h.inj c k i hb (by rw [e1]; exact h1))
          exact Or.inr ⟨j, e, h1, (List.getElem?_set_ne hji).trans h2, h3⟩
  · replace h1 : bs'[k]? = some (j : Int) := h1
    replace h2 : bs'[k']? = some (j : Int) := h2
    rcases hL with ⟨-, e1, -⟩ | ⟨-, e1, -⟩
    · rw [e1] at h1 h2; exact h.inj k k' j h1 h2
    · rw [e1] at h1 h2
      have ne : ∀ m : Nat, (x.bs.set c (-1))[m]? = some (j : Int) → c ≠ m ∧ x.bs[m]? = some (j : Int) := fun m hm => by
        by_cases e : c = m
        · subst e; rw [List.getElem?_set_self hcb] at hm; have := Option.some.inj hm; omega
        · exact ⟨e, by rw [List.getElem?_set_ne e] at hm; exact hm⟩
      exact h.inj k k' j (ne k h1).2 (ne k' h2).2
  · show DdOk t' T' U' V' o' (x.now + 1) (upS S i s' j) e
    replace hj : (x.ds.set i d')[j]? = some e := hj
    by_cases hji : i = j
    · subst hji
      rw [List.getElem?_set_self hi] at hj
      cases hj
      rw [upeq]
      refine ⟨by rw [hop.1, hop.2.1, hop.2.2]; exact hD.op, ?_, fun τ hτ => ?_, ?_, hkl, fun e1 => ?_, fun e1 => ?_⟩
      · rw [hts, List.length_append, List.length_singleton]; have := hD.nt; omega
      · rw [hts] at hτ
        rcases List.mem_append.1 hτ with h1 | h1
        · have := hD.lt τ h1; omega
        · rw [List.mem_singleton] at h1; omega
      · rw [hts, List.pairwise_append]
        exact ⟨hD.tp, by simp, fun a ha b hb => by rw [List.mem_singleton] at hb; have := hD.lt a ha; omega⟩
      · rcases hL with ⟨-, -, hl⟩ | ⟨e2, -⟩
        · exact hl
        · rw [e2] at e1; cases e1
      · rcases hL with ⟨e2, -⟩ | ⟨-, -, hl⟩
        · rw [e2] at e1; cases e1
        · exact hl
    · rw [List.getElem?_set_ne hji] at hj
      rw [upne j (fun e => hji e.symm)]
      have hE := h.ds j e hj
      have ha : ∀ τ ∈ e.ts, ahead o' τ = ahead o τ := fun τ hτ => hO.ahead (hE.lt τ hτ).2
      exact ⟨hE.op, by have := hE.nt; omega, fun τ hτ => by have := hE.lt τ hτ; omega, hE.tp, hE.kl, fun h1 => (hE.lv h1).other C hLv.spr h.say (h.apart i j d e hd hj he h1 hji) ha, fun h1 => (hE.ed h1).mono ha⟩
  · replace hj : (x.ds.set i d')[j]? = some e := hj
    replace hk : (x.ds.set i d')[k]? = some f := hk
    intro hb2
    by_cases hji : i = j
    · subst hji
      have hki : i ≠ k := hjk
      rw [List.getElem?_set_ne hki] at hk
      rw [upeq] at ha
      rw [upne k (Ne.symm hki)] at hb2
      rcases hsp a ha with h1 | ⟨p, rfl, h1⟩
      · exact h.apart i k d f hd hk he hke hki a h1 hb2
      · exact hfree k f p hk hke hb2 h1
    · rw [List.getElem?_set_ne hji] at hj
      rw [upne j (Ne.symm hji)] at ha
      by_cases hki : i = k
      · subst hki
        rw [upeq] at hb2
        rcases hsp a hb2 with h1 | ⟨p, rfl, h1⟩
        · exact h.apart j i e d hj hd hje he hjk a ha h1
        · exact hfree j e p hj hje ha h1
      · rw [List.getElem?_set_ne hki] at hk
        rw [upne k (Ne.symm hki)] at hb2
        exact h.apart j k e f hj hk hje hke hjk a ha hb2
  · replace hj : (x.ds.set i d')[j]? = some e := hj
    show ∃ k, k < 64 ∧ bs'[k]? = some (j : Int)
    by_cases hji : i = j
    · subst hji
      rw [List.getElem?_set_self hi] at hj
      cases hj
      rcases hL with ⟨-, e1, -⟩ | ⟨e2, -⟩
      · rw [e1]; exact h.own i d hd he
      · rw [e2] at hen; cases hen
    · rw [List.getElem?_set_ne hji] at hj
      obtain ⟨k, h1, h2⟩ := h.own j e hj hen
      rcases hL with ⟨-, e1, -⟩ | ⟨-, e1, -⟩
      · rw [e1]; exact ⟨k, h1, h2⟩
      · rw [e1]
        have hkc : c ≠ k := fun e => by subst e; rw [hb] at h2; have := Option.some.inj h2; omega
        exact ⟨k, h1, by rw [List.getElem?_set_ne hkc]; exact h2⟩
  · rcases hO with ⟨-, e⟩ | ⟨-, e, -, e1, e2, -⟩
    · rw [e]; exact h.os
    · rw [e1, List.pairwise_append]
      exact ⟨h.os, by simp, fun a ha b hb => by rw [List.mem_singleton] at hb; subst hb; have := h.ot a ha; omega⟩
  · show o'.Perm (effs (upS S i s') (x.ds.set i d'))
    have hlen : (x.ds.set i d').length = x.ds.length := List.length_set
    have e0 : ∀ j, j ≠ i → effA (upS S i s') (x.ds.set i d') j = effA S x.ds j := fun j hj => by
      unfold effA; rw [upne j hj, List.getElem?_set_ne (Ne.symm hj)]
    have e1 : effA (upS S i s') (x.ds.set i d') i = effD s' d' := by unfold effA; rw [upeq, List.getElem?_set_self hi]; rfl
    have e2 : effA S x.ds i = effD (S i) d := by unfold effA; rw [hd]; rfl
    unfold effs
    rw [hlen]
    rcases hO with ⟨k1, k2⟩ | ⟨k1, e, k2, k3, -⟩
    · rw [k2, fm_same (effA S x.ds) (effA (upS S i s') (x.ds.set i d')) _ fun j _ => ?_]
      · exact h.op
      · by_cases hj : j = i
        · subst hj; rw [e1, e2, k1]
        · exact e0 j hj
    · rw [k3]
      exact (List.Perm.append_right _ h.op).trans (fm_new _ _ _ i e hi (by rw [e2, k1]) (by rw [e1, k2]) e0)
  · show e.t < x.now + 1
    rcases hO with ⟨-, k⟩ | ⟨-, e1, -, k, k2, -⟩
    · rw [k] at he2; have := h.ot e he2; omega
    · rw [k] at he2
      rcases List.mem_append.1 he2 with h1 | h1
      · have := h.ot e h1; omega
      · rw [List.mem_singleton] at h1; subst h1; omega
  · rcases hO with ⟨-, k⟩ | ⟨-, e1, -, k, -, k2⟩
    · rw [k] at he2; exact h.ok e he2
    · rw [k] at he2
      rcases List.mem_append.1 he2 with h1 | h1
      · exact h.ok e h1
      · rw [List.mem_singleton] at h1; subst h1; exact k2
end Go.Proofs.YtajobgmnmbnhiaaDoor.Sap

/- WHAT IS PROVED HERE: an access of an operation, as saplingkeep's move takes it: what tree.Next asks, what the pages reply, what tree.Tell answers (Moves), for each state that an operation may be in; and what move makes of the world with it. Conditions: named at each theorem. -/
namespace Go.Proofs.YtajobgmnmbnhiaaDoor.Sap
open Go.RowKit

/-- An access of an operation whose frame is f, and what it comes to with it. -/
def Moves (kd : Int) (f : ByteArray) (T : List ByteArray) (U : List Bool) (V kns : List Int) (rf : Bool) (T' : List ByteArray) (U' : List Bool) (V' kns' : List Int) (rf' : Bool) (r : Res) : Prop :=
  ∃ (ak ap av rv rp : Int) (at' rt : ByteArray) (rd : Bool), (∀ W, Tab W → Calls Tryd.prog 26 #[.string f] W fun e w' => e = .returned (.tuple #[.agg #[.int .i64 ak, .int .i64 ap, .int .i64 av, .string at'], .int .i64 0]) ∧ Below W.heap.size W w') ∧ AccR kd ak ap av at' T U V kns rf rv rp rt rd T' U' V' kns' rf' ∧
    (∀ W, Tab W → Calls Tryd.prog 61 #[.string f, .agg #[.int .i64 rv, .int .i64 rp, .string rt, .bool rd]] W fun e w' => ResM r W W.heap.size w' [] e)
structure RdAt (s : St) (f : ByteArray) (n : Nd) (t : ByteArray) (ver : Int) (p : Nat) (T : List ByteArray) (U : List Bool) (V : List Int) : Prop where
  f : f.data.toList = frT s
  ok : StOk s
  sw : s.sw = ⟨#[]⟩
  pg : s.pg = (p : Int)
  p64 : p < 64
  U : U[p]? = some true
  T : T[p]? = some t
  V : V[p]? = some ver
  un : Unp t.data.toList n
  step : s.step ≤ 100000000
  v0 : 0 ≤ ver
theorem RdAt.moves {s : St} {f : ByteArray} {n : Nd} {t : ByteArray} {ver : Int} {p : Nat} {T : List ByteArray} {U : List Bool} {V : List Int} (h : RdAt s f n t ver p T U V) (kns : List Int) (rf : Bool) (r : Res) (hT : ∀ W, Tab W → Calls Tryd.prog 61 #[.string f, .agg #[.int .i64 ver, .int .i64 0, .string t, .bool false]] W fun e w' => ResM r W W.heap.size w' [] e) :
    Moves s.kd f T U V kns rf T U V (kns.set p ver) rf r :=
  ⟨1, s.pg, 0, ver, 0, ⟨#[]⟩, t, false, fun W _ => next_read s f W h.f h.ok h.sw, ⟨Or.inl ⟨p, rfl, h.pg, h.p64, rfl, rfl, h.U, h.T, h.V, rfl, rfl, rfl, rfl, rfl, rfl, rfl⟩⟩, hT⟩
theorem mv_on {s : St} {f : ByteArray} {n : Nd} {t : ByteArray} {ver : Int} {p : Nat} {T : List ByteArray} {U : List Bool} {V : List Int} (h : RdAt s f n t ver p T U V) (kns : List Int) (rf : Bool) (hgo : rdGo s n) (hnx : 0 ≤ onwV n (wantV s)) (hok : StOk { s with pg := onwV n (wantV s), step := s.step + 1 }) :
    Moves s.kd f T U V kns rf T U V (kns.set p ver) rf (.on { s with pg := onwV n (wantV s), step := s.step + 1 }) :=
  h.moves kns rf _ fun W ht => tell_on s n f t ver W ht h.f h.ok h.un h.sw hgo (by have := h.step; omega) hnx hok.i
theorem mv_get {s : St} {f : ByteArray} {n : Nd} {t : ByteArray} {ver : Int} {p : Nat} {T : List ByteArray} {U : List Bool} {V : List Int} (h : RdAt s f n t ver p T U V) (kns : List Int) (rf : Bool) (hgo : ¬ rdGo s n) (hk : s.kd = 1) :
    Moves s.kd f T U V kns rf T U V (kns.set p ver) rf (.fin 0 (fndB n.ks s.key n.ks.length) (fndV n.ks n.vs s.key n.ks.length) s.step [] [] []) :=
  h.moves kns rf _ fun W ht => tell_get s n f t ver W ht h.f h.ok h.un h.sw hgo hk
theorem mv_scan {s : St} {f : ByteArray} {n : Nd} {t : ByteArray} {ver : Int} {p : Nat} {T : List ByteArray} {U : List Bool} {V : List Int} (h : RdAt s f n t ver p T U V) (kns : List Int) (rf : Bool) (hgo : ¬ rdGo s n) (hk : s.kd = 4) (hb63 : s.bel.length ≤ 63) (hsk : ∀ x ∈ s.keys, 0 ≤ x ∧ x ≤ 10000) (hlk : scEnd s n = false → 0 ≤ n.lk ∧ StOk { scS s n with pg := n.lk, step := s.step + 1 }) :
    Moves s.kd f T U V kns rf T U V (kns.set p ver) rf (scO s n).res :=
  h.moves kns rf _ fun W ht => tell_scan s n f t ver W ht h.f h.ok h.un h.sw hgo hk (by have := h.step; omega) hb63 hsk fun e => ⟨(hlk e).1, (hlk e).2.i⟩
theorem mv_miss {s : St} {f : ByteArray} {n : Nd} {t : ByteArray} {ver : Int} {p : Nat} {T : List ByteArray} {U : List Bool} {V : List Int} (h : RdAt s f n t ver p T U V) (kns : List Int) (rf : Bool) (hgo : ¬ rdGo s n) (hk : s.kd = 3) (hfb : fndB n.ks s.key n.ks.length = false) :
    Moves s.kd f T U V kns rf T U V (kns.set p ver) rf (.fin 0 false (fndV n.ks n.vs s.key n.ks.length) s.step [] [] []) :=
  h.moves kns rf _ fun W ht => tell_miss s n f t ver W ht h.f h.ok h.un h.sw hgo hk hfb
theorem mv_see {s : St} {f : ByteArray} {n : Nd} {t : ByteArray} {ver : Int} {p : Nat} {T : List ByteArray} {U : List Bool} {V : List Int} (h : RdAt s f n t ver p T U V) (kns : List Int) (rf : Bool) (hgo : ¬ rdGo s n) (hk : s.kd = 2 ∨ (s.kd = 3 ∧ fndB n.ks s.key n.ks.length = true)) (hok : StOk (seeS s t ver)) (hp : PlOk n (seeS s t ver)) (hl9 : ¬ (0 < pgsN n (seeS s t ver) ∧ s.lv = 9)) (hok2 : StOk { seeS s t ver with step := s.step + 1 }) :
    Moves s.kd f T U V kns rf T U V (kns.set p ver) rf (.on { seeS s t ver with step := s.step + 1 }) :=
  h.moves kns rf _ fun W ht => by
    rcases hk with hk | ⟨hk, hfb⟩
    · exact tell_put_on s n f t ver W ht h.f h.ok h.un h.sw hgo hk hok hp h.v0 hl9 hok2.i (by have := h.step; omega)
    · exact tell_drop_on s n f t ver W ht h.f h.ok h.un h.sw hgo hk hfb hok hp h.v0 hl9 hok2.i (by have := h.step; omega)
theorem mv_last {s : St} {f : ByteArray} {n : Nd} {t : ByteArray} {ver : Int} {p : Nat} {T : List ByteArray} {U : List Bool} {V : List Int} (h : RdAt s f n t ver p T U V) (kns : List Int) (rf : Bool) (hgo : ¬ rdGo s n) (hk : s.kd = 2) (hok : StOk (seeS s t ver)) (hp : PlOk n (seeS s t ver)) (hl9 : 0 < pgsN n (seeS s t ver) ∧ s.lv = 9) :
    Moves s.kd f T U V kns rf T U V (kns.set p ver) rf (.fin 0 false 0 s.pt [] [] []) :=
  h.moves kns rf _ fun W ht => tell_put_last s n f t ver W ht h.f h.ok h.un h.sw hgo hk hok hp h.v0 hl9
structure WrAt (s : St) (f : ByteArray) (n : Nd) : Prop where
  f : f.data.toList = frT s
  ok : StOk s
  sw : s.sw ≠ ⟨#[]⟩
  pl : PlOk n s
  step : s.step ≤ 100000000
theorem WrAt.la {s : St} {f : ByteArray} {n : Nd} (h : WrAt s f n) : 0 ≤ s.laid ∧ s.laid ≤ 2 := by have := h.ok.laid.1; have := h.ok.laidL; have := h.ok.sp2; omega
/-- What it writes. -/
def txtN (n : Nd) (s : St) : ByteArray := byt (packT (nxtN n s))
theorem txtN_unp {n : Nd} {s : St} (h : PlOk n s) : Unp (txtN n s).data.toList (nxtN n s) := ⟨h.rt, by unfold txtN byt; simp⟩
theorem WrAt.next {s : St} {f : ByteArray} {n : Nd} (h : WrAt s f n) {a b c : Int} (hw : wrA s (pgsN n s) = (a, b, c)) : ∀ W, Tab W → Calls Tryd.prog 26 #[.string f] W fun e w' => e = .returned (.tuple #[.agg #[.int .i64 a, .int .i64 b, .int .i64 c, .string (txtN n s)], .int .i64 0]) ∧ Below W.heap.size W w' := fun W ht => by
  have := next_write s n f W ht h.f h.ok h.pl h.sw h.la.2
  rw [hw] at this
  exact this
theorem mv_fresh_no {s : St} {f : ByteArray} {n : Nd} {T : List ByteArray} {U : List Bool} {V : List Int} (h : WrAt s f n) (kns : List Int) (rf : Bool) (h1 : s.laid ≠ pgsN n s) (h2 : ¬ s.laid < s.sp.length) (hU : ∀ k : Nat, k < 64 → U[k]? = some true) :
    Moves s.kd f T U V kns rf T U V kns true (frsR s (-1)) := by
  have hw : wrA s (pgsN n s) = (3, 0, 0) := by unfold wrA; rw [if_neg h1, if_neg h2]
  refine ⟨3, 0, 0, 0, -1, txtN n s, ⟨#[]⟩, false, h.next hw, ⟨Or.inr (Or.inr ⟨rfl, rfl, rfl, h.pl.kd, ⟨_, txtN_unp h.pl⟩, ⟨true, hU 0 (by omega)⟩, rfl, rfl, rfl, Or.inr ⟨hU, rfl, rfl, rfl, rfl, rfl, rfl⟩⟩)⟩, fun W ht => ?_⟩
  exact tell_tellFresh_pass s n f ⟨#[]⟩ 0 (-1) false W ht h.f h.ok h.pl h.sw h.la.2 _ (fun kv vv bv pv xv yv fr1 W1 hM => tellFresh_no s kv vv bv pv xv yv fr1 W W1 _ hM) (by rw [hw])
theorem mv_fresh_on {s : St} {f : ByteArray} {n : Nd} {T : List ByteArray} {U : List Bool} {V : List Int} (h : WrAt s f n) (kns : List Int) (rf : Bool) (h1 : s.laid ≠ pgsN n s) (h2 : ¬ s.laid < s.sp.length) {g : Nat} (g1 : 1 ≤ g) (g64 : g < 64) (hg : U[g]? = some false) (hU : ∀ k : Nat, k < g → U[k]? = some true) (hT : ∃ t0, T[g]? = some t0) (hV : ∃ v0, V[g]? = some v0) (hok : StOk (frsS s g)) :
    Moves s.kd f T U V kns rf (T.set g (txtN n s)) (U.set g true) (V.set g 0) (kns.set g 0) rf (.on (frsS s g)) := by
  have hw : wrA s (pgsN n s) = (3, 0, 0) := by unfold wrA; rw [if_neg h1, if_neg h2]
  have hst := h.step
  have hl := h.ok.sp2
  have hs2 := h.ok.spl
  refine ⟨3, 0, 0, 0, g, txtN n s, ⟨#[]⟩, false, h.next hw, ⟨Or.inr (Or.inr ⟨rfl, rfl, rfl, h.pl.kd, ⟨_, txtN_unp h.pl⟩, ⟨true, hU 0 (by omega)⟩, rfl, rfl, rfl, Or.inl ⟨g, g64, hg, hU, hT, hV, rfl, rfl, rfl, rfl, rfl, rfl⟩⟩)⟩, fun W ht => ?_⟩
  exact tell_tellFresh_pass s n f ⟨#[]⟩ 0 g false W ht h.f h.ok h.pl h.sw h.la.2 _ (fun kv vv bv pv xv yv fr1 W1 hM => tellFresh_on s g kv vv bv pv xv yv fr1 W W1 _ ht rfl (by omega) (by omega) hl (by omega) h.la.1 h.la.2 hok.i (by omega) h.ok.step.1 hM) (by rw [hw])
theorem mv_spare {s : St} {f : ByteArray} {n : Nd} {T : List ByteArray} {U : List Bool} {V : List Int} (h : WrAt s f n) (kns : List Int) (rf : Bool) (h1 : s.laid < pgsN n s) {p : Nat} {ver : Int} (h2 : s.sp[s.laid.toNat]? = some (p : Int)) (h3 : s.sv[s.laid.toNat]? = some ver) (hU : U[p]? = some true) (hV : V[p]? = some ver) (hk : kns[p]? = some ver) (hT : ∃ t0, T[p]? = some t0) (hvb : ∀ x ∈ s.sv, 0 ≤ x ∧ x ≤ 1000000000) (hok : StOk (sprS s)) :
    Moves s.kd f T U V kns rf (T.set p (txtN n s)) U (V.set p (ver + 1)) (kns.set p (ver + 1)) rf (.on (sprS s)) := by
  have hla := h.la
  have hlt : s.laid.toNat < s.sp.length := (List.getElem?_eq_some_iff.1 h2).1
  have hw : wrA s (pgsN n s) = (2, (p : Int), ver) := by unfold wrA; rw [if_neg (by omega), if_pos (by omega), h2, h3]; rfl
  have hst := h.step
  have hl := h.ok.sp2
  have hs2 := h.ok.spl
  have hp63 := h.ok.sp _ (List.mem_of_getElem? h2)
  have hv := hvb _ (List.mem_of_getElem? h3)
  refine ⟨2, p, ver, 0, 0, txtN n s, ⟨#[]⟩, true, h.next hw, ⟨Or.inr (Or.inl ⟨p, rfl, rfl, by omega, hv.1, hv.2, h.pl.kd, ⟨_, txtN_unp h.pl⟩, hU, hk, rfl, rfl, rfl, rfl, rfl, Or.inl ⟨hV, rfl, hT, rfl, rfl, rfl⟩⟩)⟩, fun W ht => ?_⟩
  exact tell_tellSpare_pass s n f ⟨#[]⟩ 0 0 true W ht h.f h.ok h.pl h.sw h.la.2 _ (fun kv vv bv pv xv yv fr1 W1 hM => tellSpare_yes s kv vv bv pv xv yv fr1 W W1 _ ht rfl h.la.1 (by omega) (by omega) (fun x hx => by have := hvb x hx; omega) hok.i (by omega) h.ok.step.1 hM) ⟨by rw [hw], h1⟩
theorem mv_swap_no {s : St} {f : ByteArray} {n : Nd} {T : List ByteArray} {U : List Bool} {V : List Int} (h : WrAt s f n) (kns : List Int) (rf : Bool) (h1 : s.laid = pgsN n s) {p : Nat} {cur : Int} (h2 : s.pg = (p : Int)) (hU : U[p]? = some true) (hV : V[p]? = some cur) (hne : cur ≠ s.ver) (hk : kns[p]? = some s.ver) (hvb : 0 ≤ s.ver ∧ s.ver ≤ 1000000000) (hok : StOk { clrS s with pg := s.pg, step := s.step + 1 }) :
    Moves s.kd f T U V kns rf T U V kns rf (.on { clrS s with pg := s.pg, step := s.step + 1 }) := by
  have hw : wrA s (pgsN n s) = (2, s.pg, s.ver) := by unfold wrA; rw [if_pos h1]
  have hst := h.step
  have hpg := h.ok.pg
  refine ⟨2, s.pg, s.ver, 0, 0, txtN n s, ⟨#[]⟩, false, h.next hw, ⟨Or.inr (Or.inl ⟨p, rfl, h2, by omega, hvb.1, hvb.2, h.pl.kd, ⟨_, txtN_unp h.pl⟩, hU, hk, rfl, rfl, rfl, rfl, rfl, Or.inr ⟨cur, hV, hne, rfl, rfl, rfl, rfl⟩⟩)⟩, fun W ht => ?_⟩
  exact tell_swap_pass s n f ⟨#[]⟩ 0 0 false W ht h.f h.ok h.pl h.sw h.la.2 _ (fun kv vv bv pv ka va ax ay kc vc cx cy T W1 ht1 hv _ _ _ _ => tellSwap_not s n (pgsN n s) (lowV n s) T kv vv bv pv ka va ax ay kc vc cx cy W1 ht1 hv hok.i (by omega) h.ok.step.1 hpg.1) ⟨by rw [hw], h1⟩
theorem mv_swap_fin {s : St} {f : ByteArray} {n : Nd} {T : List ByteArray} {U : List Bool} {V : List Int} (h : WrAt s f n) (kns : List Int) (rf : Bool) (h1 : s.laid = pgsN n s) {p : Nat} (h2 : s.pg = (p : Int)) (hU : U[p]? = some true) (hV : V[p]? = some s.ver) (hT : ∃ t0, T[p]? = some t0) (hk : kns[p]? = some s.ver) (hvb : 0 ≤ s.ver ∧ s.ver ≤ 1000000000) (hpg : pgsN n s ≠ 1) :
    Moves s.kd f T U V kns rf (T.set p (txtN n s)) U (V.set p (s.ver + 1)) (kns.set p (s.ver + 1)) rf (if s.lv = 0 then .fin 0 (fndB n.ks s.key n.ks.length) (fndV n.ks n.vs s.key n.ks.length) s.step [] [] [] else .fin 0 false 0 s.pt [] [] []) := by
  have hw : wrA s (pgsN n s) = (2, s.pg, s.ver) := by unfold wrA; rw [if_pos h1]
  have hpg2 := h.ok.pg
  have hb := right_bd n h.pl.un.1
  refine ⟨2, s.pg, s.ver, 0, 0, txtN n s, ⟨#[]⟩, true, h.next hw, ⟨Or.inr (Or.inl ⟨p, rfl, h2, by omega, hvb.1, hvb.2, h.pl.kd, ⟨_, txtN_unp h.pl⟩, hU, hk, rfl, rfl, rfl, rfl, rfl, Or.inl ⟨hV, rfl, hT, rfl, rfl, rfl⟩⟩)⟩, fun W ht => ?_⟩
  refine tell_swap_pass s n f ⟨#[]⟩ 0 0 true W ht h.f h.ok h.pl h.sw h.la.2 _ (fun kv vv bv pv ka va ax ay kc vc cx cy T W1 ht1 hv hkd hvd _ _ => ?_) ⟨by rw [hw], h1⟩
  by_cases hl : s.lv = 0
  · rw [if_pos hl]
    exact (tellSwap_fin0 s n (pgsN n s) (lowV n s) T kv vv bv pv ka va ax ay kc vc cx cy W1 ht1 hv hl hkd hvd hb.2.2.2.1 hb.2.2.2.2.1 hpg).mono fun _ _ ⟨he, hb⟩ => ⟨⟨rfl, rfl, rfl, he⟩, hb⟩
  · rw [if_neg hl]
    exact (tellSwap_finN s n (pgsN n s) (lowV n s) T kv vv bv pv ka va ax ay kc vc cx cy W1 ht1 hv hl hpg).mono fun _ _ ⟨he, hb⟩ => ⟨⟨rfl, rfl, rfl, he⟩, hb⟩
/-- The state of a Put that enters a half above. -/
def enS (n : Nd) (s : St) : St := entS { clrS s with pt := if s.lv = 0 then s.step else s.pt } (lowV n s)
theorem mv_swap_ent {s : St} {f : ByteArray} {n : Nd} {T : List ByteArray} {U : List Bool} {V : List Int} (h : WrAt s f n) (kns : List Int) (rf : Bool) (h1 : s.laid = pgsN n s) {p : Nat} (h2 : s.pg = (p : Int)) (hU : U[p]? = some true) (hV : V[p]? = some s.ver) (hT : ∃ t0, T[p]? = some t0) (hk : kns[p]? = some s.ver) (hvb : 0 ≤ s.ver ∧ s.ver ≤ 1000000000) (hpg : pgsN n s = 1) (hok : StOk (enS n s)) :
    Moves s.kd f T U V kns rf (T.set p (txtN n s)) U (V.set p (s.ver + 1)) (kns.set p (s.ver + 1)) rf (.on (enS n s)) := by
  have hw : wrA s (pgsN n s) = (2, s.pg, s.ver) := by unfold wrA; rw [if_pos h1]
  have hst := h.step
  have hpg2 := h.ok.pg
  have hb := right_bd n h.pl.un.1
  have hl2 := h.ok.sp2
  have hla := h.ok.laidL
  have hl9 : 0 ≤ s.lv ∧ s.lv ≤ 9 := by rw [← h.pl.lv]; exact ⟨hb.1, hb.2.1⟩
  refine ⟨2, s.pg, s.ver, 0, 0, txtN n s, ⟨#[]⟩, true, h.next hw, ⟨Or.inr (Or.inl ⟨p, rfl, h2, by omega, hvb.1, hvb.2, h.pl.kd, ⟨_, txtN_unp h.pl⟩, hU, hk, rfl, rfl, rfl, rfl, rfl, Or.inl ⟨hV, rfl, hT, rfl, rfl, rfl⟩⟩)⟩, fun W ht => ?_⟩
  refine tell_swap_pass s n f ⟨#[]⟩ 0 0 true W ht h.f h.ok h.pl h.sw h.la.2 _ (fun kv vv bv pv ka va ax ay kc vc cx cy T W1 ht1 hv hkd hvd hcx hcy => ?_) ⟨by rw [hw], h1⟩
  have hokI := hok.i
  unfold enS at hokI ⊢
  by_cases hl : s.lv = 0
  · rw [if_pos hl] at hokI ⊢
    exact tellSwap_ent0 s n (pgsN n s) (lowV n s) T kv vv bv pv ka va ax ay kc vc cx cy W1 ht1 hv hl hkd hvd hb.2.2.2.1 hb.2.2.2.2.1 hpg (by omega) hl2 h.ok.spl hcx hcy hokI (by omega) h.ok.step.1 hl9
  · rw [if_neg hl] at hokI ⊢
    exact tellSwap_entN s n (pgsN n s) (lowV n s) T kv vv bv pv ka va ax ay kc vc cx cy W1 ht1 hv hl hpg (by omega) hl2 h.ok.spl hcx hcy hokI (by omega) h.ok.step.1 hl9

/-- What move makes of the world, where the operation goes on; where it ends. -/
theorem move_on (x : Wd) (d : Dd) (c i : Nat) (rf' : Bool) (kns' V' : List Int) (T' : List ByteArray) (U' : List Bool) (s' : St) (fr : List As) (w0 w : World) (B : Nat) (htab : Tab w0) (hB : B = w0.heap.size) (hc : c < 64) (hb : x.bs[c]? = some (i : Int)) (hd : x.ds[i]? = some d) (hlive : d.live) (hkp : x.kp = false)
    (hSt : x.wt = true → ∀ W, PgR x.gw x.tg x.tc x.ug x.uc T' U' W → Calls Tryd.prog 84 #[.pointer (some ⟨x.gw, 0, none⟩)] W fun e w' => e = .returned (.bool true) ∧ Below W.heap.size W w')
    (hnd : x.ds.length ≤ 100000000) (hnt : d.ts.length ≤ 100000000) (hnw : 0 ≤ x.now ∧ x.now ≤ 100000000000) (hA : Moves d.k d.f x.T x.U x.V d.kns d.rf T' U' V' kns' rf' (.on s')) (h : M w0 B w (x.as ++ fr)) :
    Calls Tryd.prog 56 #[.pointer (some ⟨x.gw, 0, none⟩), .int .i64 c] w fun e w' => (∃ u, e = .returned u) ∧ ∃ tm' f', f'.data.toList = frT s' ∧ M w0 B w' (({ x with T := T', U := U', V := V', now := x.now + 1, rf := x.rf || rf', ds := x.ds.set i { d with tm := tm', f := f', ts := d.ts ++ [x.now], kns := kns', rf := rf' } } : Wd).as ++ fr) := by
  obtain ⟨ak, ap, av, rv, rp, at', rt, rd, hN, hR, hT⟩ := hA
  exact sys_go x d c i ak ap av rv rp at' rt rd rf' kns' V' T' U' (fun f => f.data.toList = frT s') fr w0 w B htab hB hc hb hd hlive hkp (fun e _ => hSt e) hnd hnt hnw hN hR (fun W ht => (hT W ht).mono fun _ _ ⟨⟨c5, he, hc5⟩, hm⟩ => ⟨c5, he, hc5, hm.bl⟩) h
theorem move_fin (x : Wd) (d : Dd) (c i : Nat) (rf' : Bool) (kns' V' : List Int) (T' : List ByteArray) (U' : List Bool) (er : Int) (fd : Bool) (va pt : Int) (ks vs : List Int) (cs : List (Int × Int)) (fr : List As) (w0 w : World) (B : Nat) (htab : Tab w0) (hB : B = w0.heap.size) (hc : c < 64) (hb : x.bs[c]? = some (i : Int)) (hd : x.ds[i]? = some d) (hlive : d.live) (hkp : x.kp = false)
    (hSt : x.wt = true → ∀ W, PgR x.gw x.tg x.tc x.ug x.uc T' U' W → Calls Tryd.prog 84 #[.pointer (some ⟨x.gw, 0, none⟩)] W fun e w' => e = .returned (.bool true) ∧ Below W.heap.size W w')
    (hnd : x.ds.length ≤ 100000000) (hnt : d.ts.length ≤ 100000000) (hnw : 0 ≤ x.now ∧ x.now ≤ 100000000000) (hA : Moves d.k d.f x.T x.U x.V d.kns d.rf T' U' V' kns' rf' (.fin er fd va pt ks vs cs)) (h : M w0 B w (x.as ++ fr)) :
    Calls Tryd.prog 56 #[.pointer (some ⟨x.gw, 0, none⟩), .int .i64 c] w fun e w' => (∃ u, e = .returned u) ∧ ∃ tm' kv vv cv, M w0 B w' (({ x with T := T', U := U', V := V', bs := x.bs.set c (-1), now := x.now + 1, rf := x.rf || rf', ds := x.ds.set i { d with tm := tm', f := ⟨#[]⟩, ts := d.ts ++ [x.now], kns := kns', rf := rf', en := true, er := er, fd := fd, va := va, pt := pt, kv := kv, vv := vv, cv := cv, ks := ks, vs := vs, cs := cs } } : Wd).as ++ fr) := by
  obtain ⟨ak, ap, av, rv, rp, at', rt, rd, hN, hR, hT⟩ := hA
  exact sys_end x d c i ak ap av rv rp at' rt rd rf' kns' V' T' U' er fd va pt ks vs cs fr w0 w B htab hB hc hb hd hlive hkp (fun e _ => hSt e) hnd hnt hnw hN hR hT h
end Go.Proofs.YtajobgmnmbnhiaaDoor.Sap

/- WHAT IS PROVED HERE: what each access that reads makes of the world: what holds at any time (Inv) holds behind it (no program's function is walked). Conditions: none but those named at each theorem. -/
namespace Go.Proofs.YtajobgmnmbnhiaaDoor.Sap
open Go.RowKit

/-- The operation behind an access, under way and at its end. -/
def Dd.go (d : Dd) (now : Int) (tm : Value) (f : ByteArray) (kns : List Int) (rf : Bool) : Dd := { d with tm := tm, f := f, ts := d.ts ++ [now], kns := kns, rf := rf }
def Dd.fin (d : Dd) (now : Int) (kns : List Int) (rf : Bool) (er : Int) (fd : Bool) (va pt : Int) (ks vs : List Int) (cs : List (Int × Int)) (tm kv vv cv : Value) : Dd :=
  { d with tm := tm, f := ⟨#[]⟩, ts := d.ts ++ [now], kns := kns, rf := rf, en := true, er := er, fd := fd, va := va, pt := pt, kv := kv, vv := vv, cv := cv, ks := ks, vs := vs, cs := cs }
/-- A rank of the pages that falls along every way. -/
structure RkOk (t : Tre) (m : Nat → Nat) : Prop where
  le : ∀ p, m p ≤ 64
  lt : ∀ p q, t.inn q → Nearer t q p → m q < m p
/-- How far an operation is from its end. -/
def rnk (m : Nat → Nat) (V : List Int) (s : St) : Nat :=
  if s.sw.size = 0 then m s.pg.toNat + 4 + 70 * (9 - s.lv).toNat
  else (2 - s.laid).toNat + 1 + (if V[s.pg.toNat]? = some s.ver then 70 * (9 - s.lv).toNat else m s.pg.toNat + 4 + 70 * (9 - s.lv).toNat)
theorem sz0 {b : ByteArray} (h : b.size = 0) : b = ⟨#[]⟩ := by
  cases b with
  | mk a =>
    have : a = #[] := Array.eq_empty_of_size_eq_zero h
    rw [this]
theorem rnk_rd {m : Nat → Nat} {V : List Int} {s : St} (h : s.sw = ⟨#[]⟩) : rnk m V s = m s.pg.toNat + 4 + 70 * (9 - s.lv).toNat := by
  unfold rnk; rw [h]; exact if_pos rfl
theorem rnk_wr {m : Nat → Nat} {V : List Int} {s : St} (h : s.sw ≠ ⟨#[]⟩) : rnk m V s = (2 - s.laid).toNat + 1 + (if V[s.pg.toNat]? = some s.ver then 70 * (9 - s.lv).toNat else m s.pg.toNat + 4 + 70 * (9 - s.lv).toNat) := by
  unfold rnk; rw [if_neg (fun e => h (sz0 e))]

/-- What is known of the operation that moves. -/
structure Mov (wt : Bool) (gw : Nat) (x : Wd) (t : Tre) (S : Nat → St) (o : List Dn) (c i : Nat) (d : Dd) : Prop where
  inv : Inv wt gw x t S o
  cl : c < 64
  bs : x.bs[c]? = some (i : Int)
  ds : x.ds[i]? = some d
  en : d.en = false
  now : x.now ≤ 90000000
theorem Mov.live {wt : Bool} {gw : Nat} {x : Wd} {t : Tre} {S : Nat → St} {o : List Dn} {c i : Nat} {d : Dd} (h : Mov wt gw x t S o c i d) : Live t x.T x.U x.V o (S i) d := (h.inv.ds i d h.ds).lv h.en
theorem Mov.step {wt : Bool} {gw : Nat} {x : Wd} {t : Tre} {S : Nat → St} {o : List Dn} {c i : Nat} {d : Dd} (h : Mov wt gw x t S o c i d) : 0 ≤ (S i).step ∧ (S i).step ≤ 90000000 := by
  have h1 := h.live.step
  have h2 := (h.inv.ds i d h.ds).nt
  have h3 := h.now
  omega
theorem Mov.all {wt : Bool} {gw : Nat} {x : Wd} {t : Tre} {S : Nat → St} {o : List Dn} {c i : Nat} {d : Dd} (h : Mov wt gw x t S o c i d) : ahead o x.now = o := ahead_all o x.now h.inv.ot
theorem Mov.chg0 {wt : Bool} {gw : Nat} {x : Wd} {t : Tre} {S : Nat → St} {o : List Dn} {c i : Nat} {d : Dd} (h : Mov wt gw x t S o c i d) : Chg x.now t t (S i) x.T x.T x.U x.U x.V x.V o :=
  Chg.none h.inv.tok h.inv.tl h.inv.ul h.inv.vl h.inv.say h.inv.us h.inv.vb h.inv.lf
/-- The page that is read. -/
theorem Mov.page {wt : Bool} {gw : Nat} {x : Wd} {t : Tre} {S : Nat → St} {o : List Dn} {c i : Nat} {d : Dd} (h : Mov wt gw x t S o c i d) : ∃ (p : Nat) (tx : ByteArray) (ver : Int), (S i).pg = (p : Int) ∧ p < 64 ∧ (S i).pg.toNat = p ∧ t.inn p ∧ x.U[p]? = some true ∧ x.T[p]? = some tx ∧ x.V[p]? = some ver ∧ Unp tx.data.toList (t.nd p) ∧ 0 ≤ ver ∧ ver ≤ x.now := by
  obtain ⟨p, h1, h2, h3⟩ := h.live.ok.pgN
  have hw := h.live.way.inn
  rw [h3] at hw
  obtain ⟨-, hU, tx, hT, hu⟩ := h.inv.say p hw
  have hV : x.V[p]? = some (x.V[p]'(by rw [h.inv.vl]; exact h2)) := List.getElem?_eq_getElem _
  exact ⟨p, tx, _, h1, h2, h3, hw, hU, hT, hV, hu, (h.inv.vb p _ hV).1, (h.inv.vb p _ hV).2⟩
theorem Mov.rdAt {wt : Bool} {gw : Nat} {x : Wd} {t : Tre} {S : Nat → St} {o : List Dn} {c i : Nat} {d : Dd} (h : Mov wt gw x t S o c i d) (hsw : (S i).sw = ⟨#[]⟩) {p : Nat} {tx : ByteArray} {ver : Int} (h1 : (S i).pg = (p : Int)) (h2 : p < 64) (hU : x.U[p]? = some true) (hT : x.T[p]? = some tx) (hV : x.V[p]? = some ver) (hu : Unp tx.data.toList (t.nd p)) (hv : 0 ≤ ver) : RdAt (S i) d.f (t.nd p) tx ver p x.T x.U x.V :=
  ⟨h.live.f, h.live.ok, hsw, h1, h2, hU, hT, hV, hu, by have := h.step; omega, hv⟩

/-- Of the spares the access of another page says nothing. -/
theorem SprOk.kns {t : Tre} {U : List Bool} {V kns : List Int} {s s' : St} {p : Nat} (h : SprOk t U V kns s) (hp : t.inn p) (v : Int) (e1 : s'.sp = s.sp) (e2 : s'.sv = s.sv) : SprOk t U V (kns.set p v) s' := by
  refine ⟨by rw [e1]; exact h.nd, fun j a hj => ?_⟩
  rw [e1] at hj
  rw [e2]
  obtain ⟨q, h1, h2, h3, h4, h5, u, h6, h7, h8⟩ := h.ok j a hj
  exact ⟨q, h1, h2, h3, h4, h5, u, h6, h7, by rw [List.getElem?_set_ne (show p ≠ q from fun e => h4 (e ▸ hp))]; exact h8⟩
theorem StOk.on {s : St} (h : StOk s) {q : Int} (hq : 0 ≤ q ∧ q ≤ 63) (hs : s.step ≤ 1000000000) : StOk { s with pg := q, step := s.step + 1 } :=
  ⟨h.op, h.val, by have := h.step; unfold Fr at this ⊢; simp only; omega, hq, h.keys, h.vals, h.pts, h.kl, h.kl12, h.bl, h.bl64, h.bel, h.seen, h.ver, h.laid, h.lv, h.low, h.ch, h.pt, h.swL, h.sw, h.sp, h.sv, h.spk, h.spl, h.sp2, h.laidL, by
    rcases h.ent with h1 | h1
    · exact Or.inl h1
    · exact Or.inr ⟨h1.1, h1.2.1, h1.2.2.1, by show s.pt < s.step + 1; omega, h1.2.2.2.2⟩⟩
theorem StOk.want {s : St} (h : StOk s) : 1 ≤ wantV s ∧ wantV s ≤ 9999 ∧ (s.kd = 4 → wantV s ≤ s.val) := by
  have hr := h.rng
  unfold wantV
  rcases h.ent with h1 | h1
  · rw [if_neg (by omega)]
    cases hb : s.bel.getLast? with
    | none =>
      refine ⟨hr.2.2.1, hr.2.2.2, fun hk => ?_⟩
      have := h.op
      simp only [opR, Bool.and_eq_true, Bool.or_eq_true, decide_eq_true_eq] at this
      show s.key ≤ s.val
      omega
    | some b =>
      have h2 := keysOk_all _ _ _ h.bel b (List.mem_of_getLast? hb)
      have := h.op
      simp only [opR, Bool.and_eq_true, Bool.or_eq_true, decide_eq_true_eq] at this
      have h4 : s.kd = 4 := by
        rcases h.seen with h3 | h3
        · exact h3
        · rw [h3.2.2.1] at hb; cases hb
      show 1 ≤ b ∧ b ≤ 9999 ∧ _
      refine ⟨by omega, by omega, fun _ => by show b ≤ s.val; omega⟩
  · rw [if_pos (by omega)]
    exact ⟨by omega, by omega, fun hk => by omega⟩
theorem StOk.lv0 {s : St} (h : StOk s) (hk : s.kd ≠ 2) : s.lv = 0 := by
  rcases h.ent with h1 | h1
  · exact h1.1
  · exact absurd h1.2.2.1 hk
theorem StOk.lvb {s : St} (h : StOk s) : 0 ≤ s.lv ∧ s.lv ≤ 9 := by
  rcases h.ent with h1 | h1 <;> omega
theorem StOk.wkey {s : St} (h : StOk s) (hl : s.lv = 0) (hk : s.kd ≠ 4) : wantV s = s.key := by
  unfold wantV
  rw [if_neg (by omega)]
  rcases h.seen with h1 | h1
  · exact absurd h1 hk
  · rw [h1.2.2.1]; rfl
theorem eff_live {s s' : St} {d d' : Dd} {now : Int} {o : List Dn} (h0 : d.en = false) (h1 : d'.en = false) (hl : s'.lv = s.lv) (hp : s'.pt = s.pt) (hts : d'.ts = d.ts ++ [now]) (hop : d'.k = d.k ∧ d'.key = d.key ∧ d'.v = d.v) (hpt : 0 < s.lv → 0 ≤ s.pt ∧ s.pt < d.ts.length) : Took s s' d d' now o o := by
  refine Or.inl ⟨?_, rfl⟩
  unfold effD
  rw [h0, h1, hl, hp, hop.1, hop.2.1, hop.2.2, hts]
  split
  · rename_i h; cases h
  · split
    · rename_i h2; rw [ts_more (hpt h2)]
    · rfl

/-- A read that leads on. -/
theorem Mov.rd_on {wt : Bool} {gw : Nat} {x : Wd} {t : Tre} {S : Nat → St} {o : List Dn} {c i : Nat} {d : Dd} (h : Mov wt gw x t S o c i d) {m : Nat → Nat} (hm : RkOk t m) (hsw : (S i).sw = ⟨#[]⟩) {p : Nat} {tx : ByteArray} {ver : Int} (h1 : (S i).pg = (p : Int)) (h2 : p < 64) (hp : t.inn p) (hU : x.U[p]? = some true) (hT : x.T[p]? = some tx) (hV : x.V[p]? = some ver) (hu : Unp tx.data.toList (t.nd p)) (hv : 0 ≤ ver) (hgo : rdGo (S i) (t.nd p)) :
    Moves (S i).kd d.f x.T x.U x.V d.kns d.rf x.T x.U x.V (d.kns.set p ver) d.rf (.on { S i with pg := onwV (t.nd p) (wantV (S i)), step := (S i).step + 1 }) ∧
    (∀ tm f rf', f.data.toList = frT { S i with pg := onwV (t.nd p) (wantV (S i)), step := (S i).step + 1 } → Inv wt gw { x with now := x.now + 1, rf := rf', ds := x.ds.set i (d.go x.now tm f (d.kns.set p ver) d.rf) } t (upS S i { S i with pg := onwV (t.nd p) (wantV (S i)), step := (S i).step + 1 }) o) ∧
    rnk m x.V { S i with pg := onwV (t.nd p) (wantV (S i)), step := (S i).step + 1 } < rnk m x.V (S i) := by
  have L := h.live
  have hst := h.step
  have hD := h.inv.ds i d h.ds
  have hpn : (S i).pg.toNat = p := by omega
  have hw := L.way
  rw [hpn] at hw
  have hwb := L.ok.want
  obtain ⟨q, q1, q2, q3, q4⟩ := hw.onw h.inv.tok L.ok.lvb.1 hwb.2.1 hgo
  have hok : StOk { S i with pg := onwV (t.nd p) (wantV (S i)), step := (S i).step + 1 } := L.ok.on (by rw [q1]; omega) (by omega)
  have ha : ∀ τ ∈ d.ts, ahead o τ = ahead o τ := fun _ _ => rfl
  refine ⟨mv_on (h.rdAt hsw h1 h2 hU hT hV hu hv) _ _ hgo (by rw [q1]; omega) hok, fun tm f rf' hf => ?_, ?_⟩
  · refine h.inv.step h.cl h.bs h.ds h.en h.chg0 ⟨rfl, rfl, rfl⟩ rfl (by show (d.kns.set p ver).length = 64; rw [List.length_set]; exact hD.kl) (eff_live h.en h.en rfl rfl rfl ⟨rfl, rfl, rfl⟩ fun h0 => (L.ent h0).pt) (fun a ha => Or.inl ha) (Or.inl ⟨h.en, rfl, ?_⟩)
    refine ⟨L.live, hok, hf, L.kd, L.key, L.val, ?_, L.spr.kns hp ver rfl rfl, fun h0 => ?_, ?_, fun e => absurd hsw e, fun hk => ?_⟩
    · show (S i).step + 1 = ((d.ts ++ [x.now]).length : Int)
      rw [List.length_append, List.length_singleton, L.step]; rfl
    · have e := ent_mono (d' := d.go x.now tm f (d.kns.set p ver) d.rf) (Grows.refl t) L.ok h0 (L.ent h0) rfl (Or.inr ⟨x.now, rfl⟩) ha
      exact ⟨e.ch, e.pt, e.no⟩
    · show Way t (onwV (t.nd p) (wantV (S i))).toNat (S i).lv (wantV (S i))
      rw [q1, Int.toNat_natCast]; exact q2
    · have hs := L.sc hk
      exact ⟨hs.1.mono x.now ha, hs.2⟩
  · rw [rnk_rd hsw, rnk_rd (show ({ S i with pg := onwV (t.nd p) (wantV (S i)), step := (S i).step + 1 } : St).sw = _ from hsw)]
    show m (onwV (t.nd p) (wantV (S i))).toNat + 4 + 70 * (9 - (S i).lv).toNat < _
    rw [q1, Int.toNat_natCast, hpn]
    have := hm.lt p q q2.inn q4
    omega

theorem fnd_lmap {n : Nd} (hr : rightB n = true) (q : Int) : fndB n.ks q n.ks.length = (lmap n q).isSome ∧ fndV n.ks n.vs q n.ks.length = (lmap n q).getD 0 := by
  have hb := right_bd n hr
  have := fnd_look n.ks n.vs q (right_pw n hr) hb.2.2.2.1 n.ks.length (Nat.le_refl _)
  rw [List.take_of_length_le (by simp; omega)] at this
  exact this
/-- The leaf for a key has what the map has. -/
theorem Mov.leaf {wt : Bool} {gw : Nat} {x : Wd} {t : Tre} {S : Nat → St} {o : List Dn} {c i : Nat} {d : Dd} (h : Mov wt gw x t S o c i d) {p : Nat} (h1 : (S i).pg = (p : Int)) (hgo : ¬ rdGo (S i) (t.nd p)) : (t.nd p).lv = (S i).lv ∧ wantV (S i) < (t.nd p).hi ∧ t.low p ≤ wantV (S i) ∧ ((S i).lv = 0 → ∀ q, t.low p ≤ q → q < (t.nd p).hi → lmap (t.nd p) q = mapO o q) := by
  have hw := h.live.way
  rw [show (S i).pg.toNat = p by omega] at hw
  unfold rdGo at hgo
  have := hw.lv
  exact ⟨by omega, by omega, hw.lo, fun h0 q q1 q2 => h.inv.lf p hw.inn (by omega) q q1 q2⟩
theorem at_end (d : Dd) (now : Int) (kns : List Int) (rf : Bool) (er : Int) (fd : Bool) (va pt : Int) (ks vs : List Int) (cs : List (Int × Int)) (tm kv vv cv : Value) (hp : pt = d.ts.length) : (d.fin now kns rf er fd va pt ks vs cs tm kv vv cv).at = now := by
  show (d.ts ++ [now])[pt.toNat]?.getD 0 = now
  rw [hp, Int.toNat_natCast]; exact at_now _ _

/-- A Get ends. -/
theorem Mov.rd_get {wt : Bool} {gw : Nat} {x : Wd} {t : Tre} {S : Nat → St} {o : List Dn} {c i : Nat} {d : Dd} (h : Mov wt gw x t S o c i d) (hsw : (S i).sw = ⟨#[]⟩) {p : Nat} {tx : ByteArray} {ver : Int} (h1 : (S i).pg = (p : Int)) (h2 : p < 64) (hU : x.U[p]? = some true) (hT : x.T[p]? = some tx) (hV : x.V[p]? = some ver) (hu : Unp tx.data.toList (t.nd p)) (hv : 0 ≤ ver) (hgo : ¬ rdGo (S i) (t.nd p)) (hk : (S i).kd = 1) :
    Moves (S i).kd d.f x.T x.U x.V d.kns d.rf x.T x.U x.V (d.kns.set p ver) d.rf (.fin 0 (lmap (t.nd p) d.key).isSome ((lmap (t.nd p) d.key).getD 0) d.ts.length [] [] []) ∧
    ∀ tm kv vv cv rf', Inv wt gw { x with bs := x.bs.set c (-1), now := x.now + 1, rf := rf', ds := x.ds.set i (d.fin x.now (d.kns.set p ver) d.rf 0 (lmap (t.nd p) d.key).isSome ((lmap (t.nd p) d.key).getD 0) d.ts.length [] [] [] tm kv vv cv) } t (upS S i (S i)) o := by
  have L := h.live
  have hD := h.inv.ds i d h.ds
  obtain ⟨k1, k2, k3, k4⟩ := h.leaf h1 hgo
  have hl0 := L.ok.lv0 (by omega)
  have hwk := L.ok.wkey hl0 (by omega)
  have hf := fnd_lmap hu.1 (S i).key
  have hkd : d.k = 1 := by rw [← L.kd]; exact hk
  refine ⟨?_, fun tm kv vv cv rf' => ?_⟩
  · have := mv_get (h.rdAt hsw h1 h2 hU hT hV hu hv) d.kns d.rf hgo hk
    rw [hf.1, hf.2, L.step, L.key] at this
    exact this
  · refine h.inv.step h.cl h.bs h.ds h.en h.chg0 ⟨rfl, rfl, rfl⟩ rfl (by show (d.kns.set p ver).length = 64; rw [List.length_set]; exact hD.kl) (Or.inl ⟨?_, rfl⟩) (fun a ha => Or.inl ha) (Or.inr ⟨rfl, rfl, ?_⟩)
    · unfold effD
      rw [h.en, hl0]
      show tkD _ = none
      unfold tkD
      rw [if_neg]
      show ¬ ((d.k = 2 ∨ d.k = 3) ∧ _)
      omega
    · refine ⟨⟨d.ts.length, rfl, by show d.ts.length < (d.ts ++ [x.now]).length; simp⟩, Or.inr ⟨by show d.k ≠ 4; omega, rfl, rfl, rfl, Or.inr ⟨rfl, ?_, ?_⟩⟩⟩
      · rw [at_end _ _ _ _ _ _ _ _ _ _ _ _ _ _ _ rfl, h.all]
        show (lmap (t.nd p) d.key).isSome = (mapO o d.key).isSome
        rw [k4 hl0 d.key (by rw [← L.key, ← hwk]; exact k3) (by rw [← L.key, ← hwk]; exact k2)]
      · rw [at_end _ _ _ _ _ _ _ _ _ _ _ _ _ _ _ rfl, h.all]
        show (lmap (t.nd p) d.key).getD 0 = (mapO o d.key).getD 0
        rw [k4 hl0 d.key (by rw [← L.key, ← hwk]; exact k3) (by rw [← L.key, ← hwk]; exact k2)]
end Go.Proofs.YtajobgmnmbnhiaaDoor.Sap
