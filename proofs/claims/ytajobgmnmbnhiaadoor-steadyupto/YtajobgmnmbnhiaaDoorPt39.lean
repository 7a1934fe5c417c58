/- WHAT IS PROVED HERE: plain facts: what saplingkeep's table has, made by the operations in their order, is a map; a list in the order of its times, no two of them one, is the only such (no program's function is walked). Conditions: none but those named at each theorem. -/
import Derived.Test.YtajobgmnmbnhiaaDoorPt26
import Derived.Test.YtajobgmnmbnhiaaDoorPt36
namespace Go.Proofs.YtajobgmnmbnhiaaDoor.Sap
open Go.RowKit
def mapO (l : List Dn) : Int → Option Int := l.foldl (fun m d => upd d.k d.key d.v m) (fun _ => none)
theorem mapO_snoc (l : List Dn) (d : Dn) : mapO (l ++ [d]) = upd d.k d.key d.v (mapO l) := by simp [mapO]
theorem ahead_snoc (o : List Dn) (d : Dn) (time : Int) (h : time ≤ d.t) : ahead (o ++ [d]) time = ahead o time := by
  unfold ahead
  induction o with
  | nil =>
    have : ¬ d.t < time := by omega
    simp [this]
  | cons x r ih =>
    simp only [List.cons_append, List.takeWhile_cons]
    split
    · rw [ih]
    · rfl
theorem ahead_all (o : List Dn) (time : Int) (h : ∀ d ∈ o, d.t < time) : ahead o time = o := by
  unfold ahead
  induction o with
  | nil => rfl
  | cons x r ih =>
    rw [List.takeWhile_cons, if_pos (by simpa using h x (by simp)), ih fun d hd => h d (by simp [hd])]
structure Scn (o : List Dn) (ts : List Int) (key val : Int) (keys vals bel pts : List Int) : Prop where
  kl : keys.length = vals.length
  asc : keys.Pairwise (· < ·)
  inn : ∀ q ∈ keys, key ≤ q ∧ q < fromV bel key bel.length
  bl : bel.length = pts.length
  pb : ∀ p ∈ pts, 0 ≤ p ∧ p < ts.length
  pp : pts.Pairwise (· < ·)
  bp : ∀ j, j < bel.length → fromV bel key j < fromV bel key (j + 1) ∧ fromV bel key (j + 1) ≤ val + 1
  pc : ∀ j q u, j < bel.length → fromV bel key j ≤ q → q < fromV bel key (j + 1) → ((q, u) ∈ keys.zip vals ↔ mapO (ahead o (ts[(pts[j]?.getD 0).toNat]?.getD 0)) q = some u)
theorem Scn.first (o : List Dn) (ts : List Int) (key val : Int) : Scn o ts key val [] [] [] [] :=
  ⟨rfl, List.Pairwise.nil, fun _ h => (by cases h), rfl, fun _ h => (by cases h), List.Pairwise.nil, fun _ h => (by cases h), fun _ _ _ h => (by cases h)⟩
theorem ts_mem {ts : List Int} {p : Int} (h : 0 ≤ p ∧ p < ts.length) : ts[p.toNat]?.getD 0 ∈ ts := by
  rw [List.getElem?_eq_getElem (by omega)]
  exact List.getElem_mem _
theorem ts_more {ts : List Int} {p now : Int} (h : 0 ≤ p ∧ p < ts.length) : (ts ++ [now])[p.toNat]?.getD 0 = ts[p.toNat]?.getD 0 := by
  rw [List.getElem?_append_left (by omega)]
theorem at_now (ts : List Int) (t : Int) : (ts ++ [t])[ts.length]?.getD 0 = t := by simp
theorem Scn.mono {o o' : List Dn} {ts : List Int} {key val : Int} {keys vals bel pts : List Int} (h : Scn o ts key val keys vals bel pts) (now : Int) (ha : ∀ τ ∈ ts, ahead o' τ = ahead o τ) : Scn o' (ts ++ [now]) key val keys vals bel pts := by
  refine ⟨h.kl, h.asc, h.inn, h.bl, fun p hp => ⟨(h.pb p hp).1, by have := (h.pb p hp).2; rw [List.length_append]; simp; omega⟩, h.pp, h.bp, fun j q u hj h1 h2 => ?_⟩
  have hp : pts[j]?.getD 0 ∈ pts := by rw [List.getElem?_eq_getElem (by rw [← h.bl]; exact hj)]; exact List.getElem_mem _
  rw [ts_more (h.pb _ hp), ha _ (ts_mem (h.pb _ hp))]
  exact h.pc j q u hj h1 h2
theorem Scn.same {o o' : List Dn} {ts : List Int} {key val : Int} {keys vals bel pts : List Int} (h : Scn o ts key val keys vals bel pts) (ha : ∀ τ ∈ ts, ahead o' τ = ahead o τ) : Scn o' ts key val keys vals bel pts := by
  refine ⟨h.kl, h.asc, h.inn, h.bl, h.pb, h.pp, h.bp, fun j q u hj h1 h2 => ?_⟩
  have hp : pts[j]?.getD 0 ∈ pts := by rw [List.getElem?_eq_getElem (by rw [← h.bl]; exact hj)]; exact List.getElem_mem _
  rw [ha _ (ts_mem (h.pb _ hp))]
  exact h.pc j q u hj h1 h2
theorem from_snoc (bel : List Int) (key b : Int) (j : Nat) (h : j ≤ bel.length) : fromV (bel ++ [b]) key j = fromV bel key j := by
  cases j with
  | zero => rfl
  | succ j => show (bel ++ [b])[j]?.getD 0 = bel[j]?.getD 0; rw [List.getElem?_append_left (by omega)]
theorem from_last (bel : List Int) (key b : Int) : fromV (bel ++ [b]) key (bel.length + 1) = b := by
  show (bel ++ [b])[bel.length]?.getD 0 = b; simp
theorem want_from {s : St} (h : s.lv = 0) : wantV s = fromV s.bel s.key s.bel.length := by
  unfold wantV
  rw [if_neg (by omega)]
  cases hb : s.bel with
  | nil => rfl
  | cons x r => show (x :: r).getLast?.getD s.key = (x :: r)[r.length]?.getD 0; rw [List.getLast?_eq_getElem?]; simp
theorem asc_ent {n : Nd} (h : rightB n = true) : Asc (ent n) := by
  have hb := right_bd n h
  have h1 := right_pw n h
  have h2 : (ent n).map Prod.fst = n.ks := List.map_fst_zip (by have := hb.2.2.2.1; omega)
  rw [← h2] at h1
  exact List.pairwise_map.1 h1
theorem rng_iff (a b : Int) (x : Int × Int) : rng a b x = true ↔ a ≤ x.1 ∧ x.1 < b := by simp [rng]
theorem lmap_mem {n : Nd} (h : rightB n = true) (q u : Int) : (q, u) ∈ ent n ↔ lmap n q = some u := by
  have hb := right_bd n h
  constructor
  · intro h1
    refine look_mem ?_ h1
    rw [List.map_fst_zip (by have := hb.2.2.2.1; omega)]
    exact (right_pw n h).imp fun h e => by omega
  · intro h1; exact mem_look h1
theorem sc_zip {s : St} {n : Nd} (hr : rightB n = true) (hkl : s.keys.length = s.vals.length) (h12 : s.keys.length < 12) (hw : wantV s ≤ s.val) (hh : wantV s < n.hi) :
    (scK s n).length = (scV s n).length ∧ (scK s n).zip (scV s n) = s.keys.zip s.vals ++ (ent n).filter (rng (wantV s) (scB s n)) ∧ wantV s < scB s n ∧ scB s n ≤ s.val + 1 ∧ scB s n ≤ n.hi := by
  have hb := right_bd n hr
  obtain ⟨s1, s2⟩ := ad_spec n.ks n.vs (wantV s) s.val s.keys s.vals n.ks.length hb.2.2.2.1 (Nat.le_refl _) hkl (by omega)
  have hz : (n.ks.zip n.vs).take n.ks.length = ent n := List.take_of_length_le (by simp; omega)
  rw [hz] at s2
  have e1 : adK n.ks (wantV s) s.val s.keys n.ks.length = scK s n := rfl
  have e2 : adV n.ks n.vs (wantV s) s.val s.keys s.vals n.ks.length = scV s n := rfl
  rw [e1, e2] at s1 s2
  have hZ : (s.keys.zip s.vals).length = s.keys.length := by rw [List.length_zip]; omega
  have hL : (scK s n).length = ((s.keys.zip s.vals ++ (ent n).filter (rng (wantV s) (s.val + 1))).take 12).length := by rw [← s2, List.length_zip]; omega
  have hfst : ((scK s n).zip (scV s n)).map Prod.fst = scK s n := List.map_fst_zip (by omega)
  refine ⟨s1, ?_⟩
  by_cases hf : 12 ≤ (scK s n).length
  · have hB : scB s n = (scK s n).getLast?.getD 0 + 1 := by unfold scB; rw [if_pos hf]
    rw [List.take_append, hZ, List.take_of_length_le (by omega)] at s2
    obtain ⟨m, hm⟩ : ∃ m, 12 - s.keys.length = m + 1 := ⟨11 - s.keys.length, by omega⟩
    rw [hm] at s2
    have hlen := congrArg List.length s2
    rw [List.length_zip, List.length_append, hZ] at hlen
    have hpos : 0 < (((ent n).filter (rng (wantV s) (s.val + 1))).take (m + 1)).length := by omega
    obtain ⟨y, hy⟩ : ∃ y, (((ent n).filter (rng (wantV s) (s.val + 1))).take (m + 1)).getLast? = some y := by
      cases hc : (((ent n).filter (rng (wantV s) (s.val + 1))).take (m + 1)).getLast? with
      | none => rw [List.getLast?_eq_none_iff] at hc; rw [hc] at hpos; cases hpos
      | some y => exact ⟨y, rfl⟩
    have hF := filter_take (asc_ent hr) hy
    have hym := List.mem_of_mem_take (List.mem_of_getLast? hy)
    have hy2 := (rng_iff _ _ _).1 (List.mem_filter.1 hym).2
    have hy3 := (right_kb n hr y.1 (ent_key (List.mem_filter.1 hym).1).1).2
    have hlast : (scK s n).getLast? = some y.1 := by
      rw [← hfst, s2, List.map_append, List.getLast?_append, List.getLast?_map, hy]; rfl
    have hBy : scB s n = y.1 + 1 := by rw [hB, hlast]; rfl
    rw [hBy]
    refine ⟨?_, by omega, by omega, by omega⟩
    rw [s2, hF]
  · rw [List.take_of_length_le (by rw [List.length_take] at hL; omega)] at s2
    have hB : scB s n = if s.val + 1 < n.hi then s.val + 1 else n.hi := by unfold scB; rw [if_neg hf]
    have hBe : scB s n ≤ s.val + 1 ∧ scB s n ≤ n.hi ∧ wantV s < scB s n := by rw [hB]; split <;> omega
    refine ⟨?_, hBe.2.2, hBe.1, hBe.2.1⟩
    rw [s2]
    congr 1
    refine List.filter_congr fun x hx => ?_
    have := (right_kb n hr x.1 (ent_key hx).1).2
    rw [Bool.eq_iff_iff, rng_iff, rng_iff, hB]
    split <;> omega
theorem Scn.more {o o' : List Dn} {ts : List Int} {s : St} {n : Nd} {low now : Int} (h : Scn o ts s.key s.val s.keys s.vals s.bel s.pts) (hr : rightB n = true) (hlv : s.lv = 0) (h12 : s.keys.length < 12) (hw : wantV s ≤ s.val) (hh : wantV s < n.hi) (hlo : low ≤ wantV s)
    (hm : ∀ q, low ≤ q → q < n.hi → lmap n q = mapO o q) (hst : s.step = ts.length) (ha : ∀ τ ∈ ts, ahead o' τ = ahead o τ) (hn : ahead o' now = o) :
    Scn o' (ts ++ [now]) s.key s.val (scK s n) (scV s n) (s.bel ++ [scB s n]) (s.pts ++ [s.step]) := by
  obtain ⟨k1, k2, k3, k4, k5⟩ := sc_zip hr h.kl h12 hw hh
  have hwf := want_from hlv
  have hfst : ((scK s n).zip (scV s n)).map Prod.fst = scK s n := List.map_fst_zip (by omega)
  have hK : scK s n = s.keys ++ ((ent n).filter (rng (wantV s) (scB s n))).map Prod.fst := by
    rw [← hfst, k2, List.map_append, List.map_fst_zip (by have := h.kl; omega)]
  have hF : ∀ q ∈ ((ent n).filter (rng (wantV s) (scB s n))).map Prod.fst, wantV s ≤ q ∧ q < scB s n := fun q hq => by
    obtain ⟨y, hy, rfl⟩ := List.mem_map.1 hq
    exact (rng_iff _ _ _).1 (List.mem_filter.1 hy).2
  have hbase : ∀ j, j ≤ s.bel.length → s.key ≤ fromV s.bel s.key j := fun j => by
    induction j with
    | zero => intro _; exact Int.le_refl _
    | succ j ih => intro hj; have := ih (by omega); have := (h.bp j (by omega)).1; omega
  have hup : ∀ d j, j + d ≤ s.bel.length → fromV s.bel s.key j ≤ fromV s.bel s.key (j + d) := fun d => by
    induction d with
    | zero => intro j _; exact Int.le_refl _
    | succ d ih => intro j hj; have := ih j (by omega); have := (h.bp (j + d) (by omega)).1; rw [← Nat.add_assoc]; omega
  have hbw := hbase s.bel.length (Nat.le_refl _)
  have hkz : ∀ q u, (q, u) ∈ s.keys.zip s.vals → q < wantV s := fun q u hq => by rw [hwf]; exact (h.inn q (List.of_mem_zip hq).1).2
  refine ⟨k1, ?_, fun q hq => ?_, by rw [List.length_append, List.length_append, h.bl]; rfl, fun p hp => ?_, ?_, fun j hj => ?_, fun j q u hj h1 h2 => ?_⟩
  · rw [hK, List.pairwise_append]
    refine ⟨h.asc, List.pairwise_map.2 (asc_filter _ (asc_ent hr)), fun a ha b hb => ?_⟩
    have := (h.inn a ha).2
    have := (hF b hb).1
    omega
  · rw [List.length_append, List.length_singleton, from_last]
    rw [hK] at hq
    rcases List.mem_append.1 hq with hq | hq
    · have := h.inn q hq; omega
    · have := hF q hq; omega
  · rw [List.length_append, List.length_singleton]
    rcases List.mem_append.1 hp with hp | hp
    · have := h.pb p hp; omega
    · rw [List.mem_singleton] at hp; omega
  · rw [List.pairwise_append]
    refine ⟨h.pp, by simp, fun a ha b hb => ?_⟩
    rw [List.mem_singleton] at hb
    have := h.pb a ha
    omega
  · rw [List.length_append, List.length_singleton] at hj
    rw [from_snoc _ _ _ _ (by omega)]
    rcases Nat.lt_or_ge j s.bel.length with hj2 | hj2
    · rw [from_snoc _ _ _ _ (by omega)]; exact h.bp j hj2
    · obtain rfl : j = s.bel.length := by omega
      rw [from_last]
      omega
  · rw [List.length_append, List.length_singleton] at hj
    rw [from_snoc _ _ _ _ (by omega)] at h1
    rw [k2, List.mem_append, List.mem_filter, rng_iff]
    rcases Nat.lt_or_ge j s.bel.length with hj2 | hj2
    · rw [from_snoc _ _ _ _ (by omega)] at h2
      have hjp : j < s.pts.length := by rw [← h.bl]; exact hj2
      rw [List.getElem?_append_left hjp]
      have hp : s.pts[j]?.getD 0 ∈ s.pts := by rw [List.getElem?_eq_getElem hjp]; exact List.getElem_mem _
      rw [ts_more (h.pb _ hp), ha _ (ts_mem (h.pb _ hp)), ← h.pc j q u hj2 h1 h2]
      refine ⟨fun hx => ?_, Or.inl⟩
      rcases hx with hx | ⟨-, hx⟩
      · exact hx
      · have := hup (s.bel.length - (j + 1)) (j + 1) (by omega)
        rw [show j + 1 + (s.bel.length - (j + 1)) = s.bel.length by omega] at this
        have h3 : wantV s ≤ q := hx.1
        omega
    · obtain rfl : j = s.bel.length := by omega
      rw [from_last] at h2
      have e : (s.pts ++ [s.step])[s.bel.length]?.getD 0 = s.step := by rw [h.bl]; simp
      rw [e, hst, Int.toNat_natCast, at_now, hn, ← hm q (by omega) (by omega), ← lmap_mem hr]
      refine ⟨fun hx => ?_, fun hx => Or.inr ⟨hx, by omega, h2⟩⟩
      rcases hx with hx | ⟨hx, -⟩
      · have := hkz q u hx
        omega
      · exact hx
def valS (k v : Int) : Int := if k = 1 ∨ k = 3 then 0 else v
structure SprOk (t : Tre) (U : List Bool) (V kns : List Int) (s : St) : Prop where
  nd : s.sp.Nodup
  ok : ∀ (j : Nat) (a : Int), s.sp[j]? = some a → ∃ p : Nat, a = (p : Int) ∧ 1 ≤ p ∧ p < 64 ∧ ¬ t.inn p ∧ U[p]? = some true ∧ ∃ v, s.sv[j]? = some v ∧ V[p]? = some v ∧ kns[p]? = some v
structure Ent (t : Tre) (o : List Dn) (s : St) (d : Dd) : Prop where
  ch : t.kid s.lv (s.low, s.ch)
  pt : 0 ≤ s.pt ∧ s.pt < d.ts.length
  no : mapO (ahead o (d.ts[s.pt.toNat]?.getD 0)) d.key = none
structure Wr (T : List ByteArray) (V kns : List Int) (s : St) (n : Nd) : Prop where
  pl : PlOk n s
  kn : kns[s.pg.toNat]? = some s.ver
  cur : ∃ c, V[s.pg.toNat]? = some c ∧ 0 ≤ s.ver ∧ s.ver ≤ c ∧ (c = s.ver → T[s.pg.toNat]? = some s.sw)
  l9 : ¬ (crwB n s = true ∧ s.lv = 9)
  rgt : 1 ≤ s.laid → ∃ (r : Nat) (tx : ByteArray), s.sp[0]? = some (r : Int) ∧ T[r]? = some tx ∧ Unp tx.data.toList (rgtN (chgN n s) (lowV n s))
  lft : s.laid = 2 → ∃ (l r : Nat) (tx : ByteArray), s.sp[1]? = some (l : Int) ∧ s.sp[0]? = some (r : Int) ∧ T[l]? = some tx ∧ Unp tx.data.toList (lftN (chgN n s) (lowV n s) r)
structure Live (t : Tre) (T : List ByteArray) (U : List Bool) (V : List Int) (o : List Dn) (s : St) (d : Dd) : Prop where
  live : d.live
  ok : StOk s
  f : d.f.data.toList = frT s
  kd : s.kd = d.k
  key : s.key = d.key
  val : s.val = valS d.k d.v
  step : s.step = d.ts.length
  spr : SprOk t U V d.kns s
  ent : 0 < s.lv → Ent t o s d
  way : Way t s.pg.toNat s.lv (wantV s)
  wr : s.sw ≠ ⟨#[]⟩ → ∃ n, Wr T V d.kns s n
  sc : s.kd = 4 → Scn o d.ts s.key s.val s.keys s.vals s.bel s.pts ∧ ∀ b ∈ s.bel, ∃ q, t.inn q ∧ q ≠ 0 ∧ (t.nd q).lv = 0 ∧ t.low q = b
def Dd.at (d : Dd) : Int := d.ts[d.pt.toNat]?.getD 0
structure Scanned (o : List Dn) (d : Dd) (bel pts : List Int) : Prop where
  er : d.er = 0
  fd : d.fd = decide (0 < d.ks.length)
  va : d.va = d.ks.length
  cs : d.cs = bel.zip pts
  sc : Scn o d.ts d.key d.v d.ks d.vs bel pts
  b0 : 0 < bel.length
  b64 : bel.length ≤ 64
  pt : pts.getLast? = some d.pt
  k12 : d.ks.length ≤ 12
  en : (d.ks.length = 12 ∧ fromV bel d.key bel.length = d.ks.getLast?.getD 0 + 1) ∨ (d.ks.length < 12 ∧ fromV bel d.key bel.length = d.v + 1)
structure Ended (o : List Dn) (now : Int) (d : Dd) : Prop where
  p : ∃ p : Nat, d.pt = (p : Int) ∧ p < d.ts.length
  an : (d.k = 4 ∧ ∃ bel pts, Scanned o d bel pts) ∨
    (d.k ≠ 4 ∧ d.ks = [] ∧ d.vs = [] ∧ d.cs = [] ∧ ((d.er = 4 ∧ d.k = 2 ∧ d.fd = false ∧ d.va = 0) ∨ (d.er = 0 ∧ d.fd = (mapO (ahead o d.at) d.key).isSome ∧ d.va = (mapO (ahead o d.at) d.key).getD 0)))
def effD (s : St) (d : Dd) : Option Dn := if d.en then tkD d else if 0 < s.lv then some ⟨d.ts[s.pt.toNat]?.getD 0, d.k, d.key, d.v⟩ else none
def effA (S : Nat → St) (ds : List Dd) (i : Nat) : Option Dn := (ds[i]?).bind (effD (S i))
def effs (S : Nat → St) (ds : List Dd) : List Dn := (List.range ds.length).filterMap (effA S ds)
def upS (S : Nat → St) (i : Nat) (s : St) : Nat → St := fun j => if j = i then s else S j
theorem fm_same {α : Type} (E E' : Nat → Option α) (n : Nat) (h : ∀ j, j < n → E' j = E j) : (List.range n).filterMap E' = (List.range n).filterMap E := by
  induction n with
  | zero => rfl
  | succ n ih =>
    rw [List.range_succ, List.filterMap_append, List.filterMap_append, ih fun j hj => h j (by omega)]
    congr 1
    rw [List.filterMap_cons, List.filterMap_cons, h n (by omega)]
    rfl
theorem fm_new {α : Type} (E E' : Nat → Option α) (n i : Nat) (e : α) (hi : i < n) (h0 : E i = none) (h1 : E' i = some e) (h : ∀ j, j ≠ i → E' j = E j) : ((List.range n).filterMap E ++ [e]).Perm ((List.range n).filterMap E') := by
  induction n with
  | zero => omega
  | succ n ih =>
    rw [List.range_succ, List.filterMap_append, List.filterMap_append]
    rcases Nat.lt_or_ge i n with hin | hin
    · have e1 : List.filterMap E' [n] = List.filterMap E [n] := by rw [List.filterMap_cons, List.filterMap_cons, h n (by omega)]; rfl
      rw [e1, List.append_assoc]
      refine (List.Perm.append_left _ List.perm_append_comm).trans ?_
      rw [← List.append_assoc]
      exact List.Perm.append_right _ (ih hin)
    · obtain rfl : i = n := by omega
      rw [fm_same E E' i fun j hj => h j (by omega)]
      have e1 : List.filterMap E [i] = [] := by simp [h0]
      have e2 : List.filterMap E' [i] = [e] := by simp [h1]
      rw [e1, e2, List.append_nil]
structure DdOk (t : Tre) (T : List ByteArray) (U : List Bool) (V : List Int) (o : List Dn) (now : Int) (s : St) (d : Dd) : Prop where
  op : opR d.k d.key d.v = true
  nt : (d.ts.length : Int) ≤ now
  lt : ∀ τ ∈ d.ts, 0 ≤ τ ∧ τ < now
  tp : d.ts.Pairwise (· < ·)
  kl : d.kns.length = 64
  lv : d.en = false → Live t T U V o s d
  ed : d.en = true → Ended o now d
structure Inv (wt : Bool) (gw : Nat) (x : Wd) (t : Tre) (S : Nat → St) (o : List Dn) : Prop where
  pg : x.gw = gw
  kp : x.kp = false
  wt : x.wt = wt
  ov : x.ov = .slice none 0 0
  tl : x.T.length = 64
  ul : x.U.length = 64
  vl : x.V.length = 64
  tok : t.Ok
  lf : Leafs t (mapO o)
  say : ∀ p, t.inn p → Says x.T x.U p (t.nd p)
  us : ∀ p : Nat, x.U[p]? = some true → ∃ n, Says x.T x.U p n
  vb : ∀ (p : Nat) v, x.V[p]? = some v → 0 ≤ v ∧ v ≤ x.now
  now : 0 ≤ x.now
  puts : 0 ≤ x.puts ∧ x.puts ≤ x.ds.length
  bsl : x.bs.length = 64
  bs : ∀ c, c < 64 → x.bs[c]? = some (-1) ∨ ∃ (i : Nat) (d : Dd), x.bs[c]? = some (i : Int) ∧ x.ds[i]? = some d ∧ d.en = false
  inj : ∀ (c c' i : Nat), x.bs[c]? = some (i : Int) → x.bs[c']? = some (i : Int) → c = c'
  ds : ∀ (i : Nat) (d : Dd), x.ds[i]? = some d → DdOk t x.T x.U x.V o x.now (S i) d
  apart : ∀ (i j : Nat) (d e : Dd), x.ds[i]? = some d → x.ds[j]? = some e → d.en = false → e.en = false → i ≠ j → ∀ a ∈ (S i).sp, a ∉ (S j).sp
  own : ∀ (i : Nat) (d : Dd), x.ds[i]? = some d → d.en = false → ∃ c, c < 64 ∧ x.bs[c]? = some (i : Int)
  os : o.Pairwise fun a b => a.t < b.t
  op : o.Perm (effs S x.ds)
  ot : ∀ e ∈ o, e.t < x.now
  ok : ∀ e ∈ o, e.k = 2 ∨ e.k = 3
structure Chg (now : Int) (t t' : Tre) (s : St) (T T' : List ByteArray) (U U' : List Bool) (V V' : List Int) (o' : List Dn) : Prop where
  ok : t'.Ok
  gr : Grows t t'
  tl : T'.length = 64
  ul : U'.length = 64
  vl : V'.length = 64
  say : ∀ p, t'.inn p → Says T' U' p (t'.nd p)
  us : ∀ p : Nat, U'[p]? = some true → ∃ n, Says T' U' p n
  vb : ∀ (p : Nat) v, V'[p]? = some v → 0 ≤ v ∧ v ≤ now + 1
  lf : Leafs t' (mapO o')
  uu : ∀ p : Nat, U[p]? = some true → U'[p]? = some true
  q : ∃ q : Nat, (∀ p : Nat, p ≠ q → T'[p]? = T[p]? ∧ V'[p]? = V[p]?) ∧ ((q : Int) ∈ s.sp ∨ U[q]? = some false ∨ (t.inn q ∧ ∃ v, V[q]? = some v ∧ V'[q]? = some (v + 1)) ∨ (T' = T ∧ V' = V))
  new : ∀ p, t'.inn p → t.inn p ∨ (p : Int) ∈ s.sp
theorem Chg.none {now : Int} {t : Tre} {s : St} {T : List ByteArray} {U : List Bool} {V : List Int} {o : List Dn} (ok : t.Ok) (tl : T.length = 64) (ul : U.length = 64) (vl : V.length = 64) (say : ∀ p, t.inn p → Says T U p (t.nd p)) (us : ∀ p : Nat, U[p]? = some true → ∃ n, Says T U p n) (vb : ∀ (p : Nat) v, V[p]? = some v → 0 ≤ v ∧ v ≤ now) (lf : Leafs t (mapO o)) : Chg now t t s T T U U V V o :=
  ⟨ok, Grows.refl t, tl, ul, vl, say, us, fun p v h => by have := vb p v h; omega, lf, fun _ h => h, ⟨0, fun _ _ => ⟨rfl, rfl⟩, Or.inr (Or.inr (Or.inr ⟨rfl, rfl⟩))⟩, fun _ h => Or.inl h⟩
theorem kid_mono {t t' : Tre} (g : Grows t t') {l : Int} {e : Int × Int} (h : t.kid l e) (h0 : e.2 ≠ 0) : t'.kid l e := by
  obtain ⟨q, h1, h2, h3, h4⟩ := h
  have hq : q ≠ 0 := fun e => h0 (by rw [h1, e]; rfl)
  exact ⟨q, h1, g.inn q h2, by rw [g.low q h2]; exact h3, by rw [g.lvE q h2 hq]; exact h4⟩
theorem StOk.pgN {s : St} (h : StOk s) : ∃ p : Nat, s.pg = (p : Int) ∧ p < 64 ∧ s.pg.toNat = p := ⟨s.pg.toNat, by have := h.pg; omega, by have := h.pg; omega, rfl⟩
theorem ent_mono {t t' : Tre} (g : Grows t t') {o o' : List Dn} {s : St} {d d' : Dd} (hs : StOk s) (hl : 0 < s.lv) (h : Ent t o s d) (hk : d'.key = d.key) (hts : d'.ts = d.ts ∨ ∃ now, d'.ts = d.ts ++ [now]) (ha : ∀ τ ∈ d.ts, ahead o' τ = ahead o τ) : Ent t' o' s d' := by
  have e1 : d'.ts[s.pt.toNat]?.getD 0 = d.ts[s.pt.toNat]?.getD 0 := by
    rcases hts with e | ⟨now, e⟩
    · rw [e]
    · rw [e]; exact ts_more h.pt
  refine ⟨kid_mono g h.ch ?_, ⟨h.pt.1, ?_⟩, ?_⟩
  · rcases hs.ent with h1 | h1
    · omega
    · show s.ch ≠ 0; omega
  · have := h.pt.2
    rcases hts with e | ⟨now, e⟩
    · rw [e]; exact this
    · rw [e, List.length_append, List.length_singleton]; omega
  · rw [e1, ha _ (ts_mem h.pt), hk]; exact h.no
theorem bel_mono {t t' : Tre} (g : Grows t t') {bel : List Int} (h : ∀ b ∈ bel, ∃ q, t.inn q ∧ q ≠ 0 ∧ (t.nd q).lv = 0 ∧ t.low q = b) : ∀ b ∈ bel, ∃ q, t'.inn q ∧ q ≠ 0 ∧ (t'.nd q).lv = 0 ∧ t'.low q = b := fun b hb => by
  obtain ⟨q, h1, h2, h3, h4⟩ := h b hb
  exact ⟨q, g.inn q h1, h2, by rw [g.lvE q h1 h2]; exact h3, by rw [g.low q h1]; exact h4⟩
theorem mem_sp {s : St} {a : Int} (h : a ∈ s.sp) : ∃ j : Nat, s.sp[j]? = some a := List.mem_iff_getElem?.1 h
theorem Live.other {now : Int} {t t' : Tre} {s : St} {T T' : List ByteArray} {U U' : List Bool} {V V' : List Int} {o o' : List Dn} (C : Chg now t t' s T T' U U' V V' o') {kns : List Int} (hs : SprOk t U V kns s) (say : ∀ p, t.inn p → Says T U p (t.nd p)) {s2 : St} {d : Dd} (h : Live t T U V o s2 d) (hap : ∀ a ∈ s.sp, a ∉ s2.sp) (ha : ∀ τ ∈ d.ts, ahead o' τ = ahead o τ) : Live t' T' U' V' o' s2 d := by
  obtain ⟨q, hq1, hq2⟩ := C.q
  have spq : ∀ (j : Nat) (p : Nat), s2.sp[j]? = some (p : Int) → ¬ t'.inn p ∧ U'[p]? = some true ∧ (T'[p]? = T[p]? ∧ V'[p]? = V[p]?) := fun j p hj => by
    have hm : (p : Int) ∈ s2.sp := List.mem_of_getElem? hj
    obtain ⟨p', e, h1, h2, h3, h4, -⟩ := h.spr.ok j _ hj
    obtain rfl : p = p' := by omega
    refine ⟨fun hi => ?_, C.uu p h4, ?_⟩
    · rcases C.new p hi with h5 | h5
      · exact h3 h5
      · exact hap _ h5 hm
    · rcases hq2 with h5 | h5 | ⟨h5, -⟩ | ⟨h5, h6⟩
      · exact hq1 p fun e => hap _ h5 (e ▸ hm)
      · exact hq1 p fun e => by subst e; rw [h4] at h5; cases h5
      · exact hq1 p fun e => h3 (e ▸ h5)
      · rw [h5, h6]; exact ⟨rfl, rfl⟩
  refine ⟨h.live, h.ok, h.f, h.kd, h.key, h.val, h.step, ⟨h.spr.nd, fun j a hj => ?_⟩, fun hl => ent_mono C.gr h.ok hl (h.ent hl) rfl (Or.inl rfl) ha, h.way.mono C.gr, fun hw => ?_, fun hk => ?_⟩
  · obtain ⟨p, rfl, h1, h2, h3, h4, v, h5, h6, h7⟩ := h.spr.ok j a hj
    obtain ⟨k1, k2, k3, k4⟩ := spq j p hj
    exact ⟨p, rfl, h1, h2, k1, k2, v, h5, by rw [k4]; exact h6, h7⟩
  · obtain ⟨n, w⟩ := h.wr hw
    refine ⟨n, w.pl, w.kn, ?_, w.l9, fun hl => ?_, fun hl => ?_⟩
    · obtain ⟨c, c1, c2, c3, c4⟩ := w.cur
      by_cases e : s2.pg.toNat = q
      · rcases hq2 with h5 | h5 | ⟨h5, v, h6, h7⟩ | ⟨h5, h6⟩
        · obtain ⟨j, hj⟩ := mem_sp h5
          obtain ⟨p', e', -, -, h3, -⟩ := hs.ok j _ hj
          exact absurd h.way.inn (by rw [e, show q = p' by omega]; exact h3)
        · have := (say _ h.way.inn).2.1
          rw [e, h5] at this; cases this
        · rw [e] at c1 ⊢
          rw [h6] at c1
          have := Option.some.inj c1
          exact ⟨v + 1, h7, c2, by omega, fun e2 => by omega⟩
        · rw [h5, h6]; exact ⟨c, c1, c2, c3, c4⟩
      · rw [(hq1 _ e).1, (hq1 _ e).2]; exact ⟨c, c1, c2, c3, c4⟩
    · obtain ⟨r, tx, h1, h2, h3⟩ := w.rgt hl
      exact ⟨r, tx, h1, by rw [(spq 0 r h1).2.2.1]; exact h2, h3⟩
    · obtain ⟨l, r, tx, h1, h2, h3, h4⟩ := w.lft hl
      exact ⟨l, r, tx, h1, h2, by rw [(spq 1 l h1).2.2.1]; exact h3, h4⟩
  · exact ⟨(h.sc hk).1.same ha, bel_mono C.gr (h.sc hk).2⟩
theorem Ended.mono {o o' : List Dn} {now now' : Int} {d : Dd} (h : Ended o now d) (ha : ∀ τ ∈ d.ts, ahead o' τ = ahead o τ) : Ended o' now' d := by
  obtain ⟨p, hp, hp2⟩ := h.p
  have e : ahead o' d.at = ahead o d.at := ha _ (by unfold Dd.at; exact ts_mem ⟨by omega, by omega⟩)
  refine ⟨⟨p, hp, hp2⟩, ?_⟩
  rcases h.an with ⟨h1, bel, pts, S⟩ | h1
  · exact Or.inl ⟨h1, bel, pts, S.er, S.fd, S.va, S.cs, S.sc.same ha, S.b0, S.b64, S.pt, S.k12, S.en⟩
  · rw [← e] at h1; exact Or.inr h1
def Took (s s' : St) (d d' : Dd) (now : Int) (o o' : List Dn) : Prop :=
  (effD s' d' = effD s d ∧ o' = o) ∨ (effD s d = none ∧ ∃ e, effD s' d' = some e ∧ o' = o ++ [e] ∧ e.t = now ∧ (e.k = 2 ∨ e.k = 3))
theorem Took.ahead {s s' : St} {d d' : Dd} {now : Int} {o o' : List Dn} (h : Took s s' d d' now o o') {τ : Int} (ht : τ < now) : ahead o' τ = ahead o τ := by
  rcases h with ⟨-, h⟩ | ⟨-, e, -, h, h2, -⟩
  · rw [h]
  · rw [h]; exact ahead_snoc o e τ (by omega)
theorem Took.aheadN {s s' : St} {d d' : Dd} {now : Int} {o o' : List Dn} (h : Took s s' d d' now o o') (ho : ∀ e ∈ o, e.t < now) : Sap.ahead o' now = o := by
  rcases h with ⟨-, h⟩ | ⟨-, e, -, h, h2, -⟩
  · rw [h]; exact ahead_all o now ho
  · rw [h, ahead_snoc o e now (by omega)]; exact ahead_all o now ho
theorem Inv.step {wt : Bool} {gw : Nat} {x : Wd} {t t' : Tre} {S : Nat → St} {o o' : List Dn} (h : Inv wt gw x t S o) {c i : Nat} {d d' : Dd} {s' : St} {T' : List ByteArray} {U' : List Bool} {V' : List Int} {bs' : List Int} {rf' : Bool} (hc : c < 64) (hb : x.bs[c]? = some (i : Int)) (hd : x.ds[i]? = some d) (he : d.en = false)
    (C : Chg x.now t t' (S i) x.T T' x.U U' x.V V' o') (hop : d'.k = d.k ∧ d'.key = d.key ∧ d'.v = d.v) (hts : d'.ts = d.ts ++ [x.now]) (hkl : d'.kns.length = 64)
    (hO : Took (S i) s' d d' x.now o o') (hsp : ∀ a ∈ s'.sp, a ∈ (S i).sp ∨ ∃ p : Nat, a = (p : Int) ∧ x.U[p]? = some false)
    (hL : (d'.en = false ∧ bs' = x.bs ∧ Live t' T' U' V' o' s' d') ∨ (d'.en = true ∧ bs' = x.bs.set c (-1) ∧ Ended o' (x.now + 1) d')) :
    Inv wt gw { x with T := T', U := U', V := V', bs := bs', now := x.now + 1, rf := rf', ds := x.ds.set i d' } t' (upS S i s') o' := by
  have hi := (List.getElem?_eq_some_iff.1 hd).1
  have hD := h.ds i d hd
  have hLv := hD.lv he
  have hcb : c < x.bs.length := by rw [h.bsl]; exact hc
  have hnow := h.now
  have upne : ∀ j, j ≠ i → upS S i s' j = S j := fun j hj => if_neg hj
  have upeq : upS S i s' i = s' := if_pos rfl
  have hfree : ∀ (j : Nat) (e : Dd) (p : Nat), x.ds[j]? = some e → e.en = false → (p : Int) ∈ (S j).sp → x.U[p]? ≠ some false := fun j e p hj hen hm hU => by
    obtain ⟨k, hk⟩ := mem_sp hm
    obtain ⟨p', e1, -, -, -, h4, -⟩ := ((h.ds j e hj).lv hen).spr.ok k _ hk
    rw [show p = p' by omega, h4] at hU
    cases hU
  refine ⟨h.pg, h.kp, h.wt, h.ov, C.tl, C.ul, C.vl, C.ok, C.lf, C.say, C.us, C.vb, ?_, ?_, ?_, fun k hk => ?_, fun k k' j h1 h2 => ?_, fun j e hj => ?_, fun j k e f hj hk hje hke hjk a ha => ?_, fun j e hj hen => ?_, ?_, ?_, fun e he2 => ?_, fun e he2 => ?_⟩
  · show 0 ≤ x.now + 1; omega
  · show 0 ≤ x.puts ∧ x.puts ≤ ((x.ds.set i d').length : Int); rw [List.length_set]; exact h.puts
  · show bs'.length = 64
    rcases hL with ⟨-, e, -⟩ | ⟨-, e, -⟩
    · rw [e]; exact h.bsl
    · rw [e, List.length_set]; exact h.bsl
  · show bs'[k]? = some (-1) ∨ ∃ (j : Nat) (e : Dd), bs'[k]? = some (j : Int) ∧ (x.ds.set i d')[j]? = some e ∧ e.en = false
    rcases hL with ⟨e0, e1, -⟩ | ⟨e0, e1, -⟩
    · rw [e1]
      rcases h.bs k hk with h1 | ⟨j, e, h1, h2, h3⟩
      · exact Or.inl h1
      · by_cases hji : i = j
        · subst hji
          exact Or.inr ⟨i, _, h1, List.getElem?_set_self hi, e0⟩
        · exact Or.inr ⟨j, e, h1, (List.getElem?_set_ne hji).trans h2, h3⟩
    · rw [e1]
      by_cases hkc : c = k
      · subst hkc; exact Or.inl (List.getElem?_set_self hcb)
      · rw [List.getElem?_set_ne hkc]
        rcases h.bs k hk with h1 | ⟨j, e, h1, h2, h3⟩
        · exact Or.inl h1
        · have hji : i ≠ j := fun e1 => hkc (h.inj c k i hb (by rw [e1]; exact h1))
          exact Or.inr ⟨j, e, h1, (List.getElem?_set_ne hji).trans h2, h3⟩
  · replace h1 : bs'[k]? = some (j : Int) := h1
    replace h2 : bs'[k']? = some (j : Int) := h2
    rcases hL with ⟨-, e1, -⟩ | ⟨-, e1, -⟩
    · rw [e1] at h1 h2; exact h.inj k k' j h1 h2
    · rw [e1] at h1 h2
      have ne : ∀ m : Nat, (x.bs.set c (-1))[m]? = some (j : Int) → c ≠ m ∧ x.bs[m]? = some (j : Int) := fun m hm => by
        by_cases e : c = m
        · subst e; rw [List.getElem?_set_self hcb] at hm; have := Option.some.inj hm; omega
        · exact ⟨e, by rw [List.getElem?_set_ne e] at hm; exact hm⟩
      exact h.inj k k' j (ne k h1).2 (ne k' h2).2
  · show DdOk t' T' U' V' o' (x.now + 1) (upS S i s' j) e
    replace hj : (x.ds.set i d')[j]? = some e := hj
    by_cases hji : i = j
    · subst hji
      rw [List.getElem?_set_self hi] at hj
      cases hj
      rw [upeq]
      refine ⟨by rw [hop.1, hop.2.1, hop.2.2]; exact hD.op, ?_, fun τ hτ => ?_, ?_, hkl, fun e1 => ?_, fun e1 => ?_⟩
      · rw [hts, List.length_append, List.length_singleton]; have := hD.nt; omega
      · rw [hts] at hτ
        rcases List.mem_append.1 hτ with h1 | h1
        · have := hD.lt τ h1; omega
        · rw [List.mem_singleton] at h1; omega
      · rw [hts, List.pairwise_append]
        exact ⟨hD.tp, by simp, fun a ha b hb => by rw [List.mem_singleton] at hb; have := hD.lt a ha; omega⟩
      · rcases hL with ⟨-, -, hl⟩ | ⟨e2, -⟩
        · exact hl
        · rw [e2] at e1; cases e1
      · rcases hL with ⟨e2, -⟩ | ⟨-, -, hl⟩
        · rw [e2] at e1; cases e1
        · exact hl
    · rw [List.getElem?_set_ne hji] at hj
      rw [upne j (fun e => hji e.symm)]
      have hE := h.ds j e hj
      have ha : ∀ τ ∈ e.ts, ahead o' τ = ahead o τ := fun τ hτ => hO.ahead (hE.lt τ hτ).2
      exact ⟨hE.op, by have := hE.nt; omega, fun τ hτ => by have := hE.lt τ hτ; omega, hE.tp, hE.kl, fun h1 => (hE.lv h1).other C hLv.spr h.say (h.apart i j d e hd hj he h1 hji) ha, fun h1 => (hE.ed h1).mono ha⟩
  · replace hj : (x.ds.set i d')[j]? = some e := hj
    replace hk : (x.ds.set i d')[k]? = some f := hk
    intro hb2
    by_cases hji : i = j
    · subst hji
      have hki : i ≠ k := hjk
      rw [List.getElem?_set_ne hki] at hk
      rw [upeq] at ha
      rw [upne k (Ne.symm hki)] at hb2
      rcases hsp a ha with h1 | ⟨p, rfl, h1⟩
      · exact h.apart i k d f hd hk he hke hki a h1 hb2
      · exact hfree k f p hk hke hb2 h1
    · rw [List.getElem?_set_ne hji] at hj
      rw [upne j (Ne.symm hji)] at ha
      by_cases hki : i = k
      · subst hki
        rw [upeq] at hb2
        rcases hsp a hb2 with h1 | ⟨p, rfl, h1⟩
        · exact h.apart j i e d hj hd hje he hjk a ha h1
        · exact hfree j e p hj hje ha h1
      · rw [List.getElem?_set_ne hki] at hk
        rw [upne k (Ne.symm hki)] at hb2
        exact h.apart j k e f hj hk hje hke hjk a ha hb2
  · replace hj : (x.ds.set i d')[j]? = some e := hj
    show ∃ k, k < 64 ∧ bs'[k]? = some (j : Int)
    by_cases hji : i = j
    · subst hji
      rw [List.getElem?_set_self hi] at hj
      cases hj
      rcases hL with ⟨-, e1, -⟩ | ⟨e2, -⟩
      · rw [e1]; exact h.own i d hd he
      · rw [e2] at hen; cases hen
    · rw [List.getElem?_set_ne hji] at hj
      obtain ⟨k, h1, h2⟩ := h.own j e hj hen
      rcases hL with ⟨-, e1, -⟩ | ⟨-, e1, -⟩
      · rw [e1]; exact ⟨k, h1, h2⟩
      · rw [e1]
        have hkc : c ≠ k := fun e => by subst e; rw [hb] at h2; have := Option.some.inj h2; omega
        exact ⟨k, h1, by rw [List.getElem?_set_ne hkc]; exact h2⟩
  · rcases hO with ⟨-, e⟩ | ⟨-, e, -, e1, e2, -⟩
    · rw [e]; exact h.os
    · rw [e1, List.pairwise_append]
      exact ⟨h.os, by simp, fun a ha b hb => by rw [List.mem_singleton] at hb; subst hb; have := h.ot a ha; omega⟩
  · show o'.Perm (effs (upS S i s') (x.ds.set i d'))
    have hlen : (x.ds.set i d').length = x.ds.length := List.length_set
    have e0 : ∀ j, j ≠ i → effA (upS S i s') (x.ds.set i d') j = effA S x.ds j := fun j hj => by
      unfold effA; rw [upne j hj, List.getElem?_set_ne (Ne.symm hj)]
    have e1 : effA (upS S i s') (x.ds.set i d') i = effD s' d' := by unfold effA; rw [upeq, List.getElem?_set_self hi]; rfl
    have e2 : effA S x.ds i = effD (S i) d := by unfold effA; rw [hd]; rfl
    unfold effs
    rw [hlen]
    rcases hO with ⟨k1, k2⟩ | ⟨k1, e, k2, k3, -⟩
    · rw [k2, fm_same (effA S x.ds) (effA (upS S i s') (x.ds.set i d')) _ fun j _ => ?_]
      · exact h.op
      · by_cases hj : j = i
        · subst hj; rw [e1, e2, k1]
        · exact e0 j hj
    · rw [k3]
      exact (List.Perm.append_right _ h.op).trans (fm_new _ _ _ i e hi (by rw [e2, k1]) (by rw [e1, k2]) e0)
  · show e.t < x.now + 1
    rcases hO with ⟨-, k⟩ | ⟨-, e1, -, k, k2, -⟩
    · rw [k] at he2; have := h.ot e he2; omega
    · rw [k] at he2
      rcases List.mem_append.1 he2 with h1 | h1
      · have := h.ot e h1; omega
      · rw [List.mem_singleton] at h1; subst h1; omega
  · rcases hO with ⟨-, k⟩ | ⟨-, e1, -, k, -, k2⟩
    · rw [k] at he2; exact h.ok e he2
    · rw [k] at he2
      rcases List.mem_append.1 he2 with h1 | h1
      · exact h.ok e h1
      · rw [List.mem_singleton] at h1; subst h1; exact k2
def Moves (kd : Int) (f : ByteArray) (T : List ByteArray) (U : List Bool) (V kns : List Int) (rf : Bool) (T' : List ByteArray) (U' : List Bool) (V' kns' : List Int) (rf' : Bool) (r : Res) : Prop :=
  ∃ (ak ap av rv rp : Int) (at' rt : ByteArray) (rd : Bool), (∀ W, Tab W → Calls Tryd.prog 26 #[.string f] W fun e w' => e = .returned (.tuple #[.agg #[.int .i64 ak, .int .i64 ap, .int .i64 av, .string at'], .int .i64 0]) ∧ Below W.heap.size W w') ∧ AccR kd ak ap av at' T U V kns rf rv rp rt rd T' U' V' kns' rf' ∧
    (∀ W, Tab W → Calls Tryd.prog 61 #[.string f, .agg #[.int .i64 rv, .int .i64 rp, .string rt, .bool rd]] W fun e w' => ResM r W W.heap.size w' [] e)
structure RdAt (s : St) (f : ByteArray) (n : Nd) (t : ByteArray) (ver : Int) (p : Nat) (T : List ByteArray) (U : List Bool) (V : List Int) : Prop where
  f : f.data.toList = frT s
  ok : StOk s
  sw : s.sw = ⟨#[]⟩
  pg : s.pg = (p : Int)
  p64 : p < 64
  U : U[p]? = some true
  T : T[p]? = some t
  V : V[p]? = some ver
  un : Unp t.data.toList n
  step : s.step ≤ 100000000
  v0 : 0 ≤ ver
theorem RdAt.moves {s : St} {f : ByteArray} {n : Nd} {t : ByteArray} {ver : Int} {p : Nat} {T : List ByteArray} {U : List Bool} {V : List Int} (h : RdAt s f n t ver p T U V) (kns : List Int) (rf : Bool) (r : Res) (hT : ∀ W, Tab W → Calls Tryd.prog 61 #[.string f, .agg #[.int .i64 ver, .int .i64 0, .string t, .bool false]] W fun e w' => ResM r W W.heap.size w' [] e) :
    Moves s.kd f T U V kns rf T U V (kns.set p ver) rf r :=
  ⟨1, s.pg, 0, ver, 0, ⟨#[]⟩, t, false, fun W _ => next_read s f W h.f h.ok h.sw, ⟨Or.inl ⟨p, rfl, h.pg, h.p64, rfl, rfl, h.U, h.T, h.V, rfl, rfl, rfl, rfl, rfl, rfl, rfl⟩⟩, hT⟩
theorem mv_on {s : St} {f : ByteArray} {n : Nd} {t : ByteArray} {ver : Int} {p : Nat} {T : List ByteArray} {U : List Bool} {V : List Int} (h : RdAt s f n t ver p T U V) (kns : List Int) (rf : Bool) (hgo : rdGo s n) (hnx : 0 ≤ onwV n (wantV s)) (hok : StOk { s with pg := onwV n (wantV s), step := s.step + 1 }) :
    Moves s.kd f T U V kns rf T U V (kns.set p ver) rf (.on { s with pg := onwV n (wantV s), step := s.step + 1 }) :=
  h.moves kns rf _ fun W ht => tell_on s n f t ver W ht h.f h.ok h.un h.sw hgo (by have := h.step; omega) hnx hok.i
theorem mv_get {s : St} {f : ByteArray} {n : Nd} {t : ByteArray} {ver : Int} {p : Nat} {T : List ByteArray} {U : List Bool} {V : List Int} (h : RdAt s f n t ver p T U V) (kns : List Int) (rf : Bool) (hgo : ¬ rdGo s n) (hk : s.kd = 1) :
    Moves s.kd f T U V kns rf T U V (kns.set p ver) rf (.fin 0 (fndB n.ks s.key n.ks.length) (fndV n.ks n.vs s.key n.ks.length) s.step [] [] []) :=
  h.moves kns rf _ fun W ht => tell_get s n f t ver W ht h.f h.ok h.un h.sw hgo hk
theorem mv_scan {s : St} {f : ByteArray} {n : Nd} {t : ByteArray} {ver : Int} {p : Nat} {T : List ByteArray} {U : List Bool} {V : List Int} (h : RdAt s f n t ver p T U V) (kns : List Int) (rf : Bool) (hgo : ¬ rdGo s n) (hk : s.kd = 4) (hb63 : s.bel.length ≤ 63) (hsk : ∀ x ∈ s.keys, 0 ≤ x ∧ x ≤ 10000) (hlk : scEnd s n = false → 0 ≤ n.lk ∧ StOk { scS s n with pg := n.lk, step := s.step + 1 }) :
    Moves s.kd f T U V kns rf T U V (kns.set p ver) rf (scO s n).res :=
  h.moves kns rf _ fun W ht => tell_scan s n f t ver W ht h.f h.ok h.un h.sw hgo hk (by have := h.step; omega) hb63 hsk fun e => ⟨(hlk e).1, (hlk e).2.i⟩
theorem mv_miss {s : St} {f : ByteArray} {n : Nd} {t : ByteArray} {ver : Int} {p : Nat} {T : List ByteArray} {U : List Bool} {V : List Int} (h : RdAt s f n t ver p T U V) (kns : List Int) (rf : Bool) (hgo : ¬ rdGo s n) (hk : s.kd = 3) (hfb : fndB n.ks s.key n.ks.length = false) :
    Moves s.kd f T U V kns rf T U V (kns.set p ver) rf (.fin 0 false (fndV n.ks n.vs s.key n.ks.length) s.step [] [] []) :=
  h.moves kns rf _ fun W ht => tell_miss s n f t ver W ht h.f h.ok h.un h.sw hgo hk hfb
theorem mv_see {s : St} {f : ByteArray} {n : Nd} {t : ByteArray} {ver : Int} {p : Nat} {T : List ByteArray} {U : List Bool} {V : List Int} (h : RdAt s f n t ver p T U V) (kns : List Int) (rf : Bool) (hgo : ¬ rdGo s n) (hk : s.kd = 2 ∨ (s.kd = 3 ∧ fndB n.ks s.key n.ks.length = true)) (hok : StOk (seeS s t ver)) (hp : PlOk n (seeS s t ver)) (hl9 : ¬ (0 < pgsN n (seeS s t ver) ∧ s.lv = 9)) (hok2 : StOk { seeS s t ver with step := s.step + 1 }) :
    Moves s.kd f T U V kns rf T U V (kns.set p ver) rf (.on { seeS s t ver with step := s.step + 1 }) :=
  h.moves kns rf _ fun W ht => by
    rcases hk with hk | ⟨hk, hfb⟩
    · exact tell_put_on s n f t ver W ht h.f h.ok h.un h.sw hgo hk hok hp h.v0 hl9 hok2.i (by have := h.step; omega)
    · exact tell_drop_on s n f t ver W ht h.f h.ok h.un h.sw hgo hk hfb hok hp h.v0 hl9 hok2.i (by have := h.step; omega)
theorem mv_last {s : St} {f : ByteArray} {n : Nd} {t : ByteArray} {ver : Int} {p : Nat} {T : List ByteArray} {U : List Bool} {V : List Int} (h : RdAt s f n t ver p T U V) (kns : List Int) (rf : Bool) (hgo : ¬ rdGo s n) (hk : s.kd = 2) (hok : StOk (seeS s t ver)) (hp : PlOk n (seeS s t ver)) (hl9 : 0 < pgsN n (seeS s t ver) ∧ s.lv = 9) :
    Moves s.kd f T U V kns rf T U V (kns.set p ver) rf (.fin 0 false 0 s.pt [] [] []) :=
  h.moves kns rf _ fun W ht => tell_put_last s n f t ver W ht h.f h.ok h.un h.sw hgo hk hok hp h.v0 hl9
structure WrAt (s : St) (f : ByteArray) (n : Nd) : Prop where
  f : f.data.toList = frT s
  ok : StOk s
  sw : s.sw ≠ ⟨#[]⟩
  pl : PlOk n s
  step : s.step ≤ 100000000
theorem WrAt.la {s : St} {f : ByteArray} {n : Nd} (h : WrAt s f n) : 0 ≤ s.laid ∧ s.laid ≤ 2 := by have := h.ok.laid.1; have := h.ok.laidL; have := h.ok.sp2; omega
def txtN (n : Nd) (s : St) : ByteArray := byt (packT (nxtN n s))
theorem txtN_unp {n : Nd} {s : St} (h : PlOk n s) : Unp (txtN n s).data.toList (nxtN n s) := ⟨h.rt, by unfold txtN byt; simp⟩
theorem WrAt.next {s : St} {f : ByteArray} {n : Nd} (h : WrAt s f n) {a b c : Int} (hw : wrA s (pgsN n s) = (a, b, c)) : ∀ W, Tab W → Calls Tryd.prog 26 #[.string f] W fun e w' => e = .returned (.tuple #[.agg #[.int .i64 a, .int .i64 b, .int .i64 c, .string (txtN n s)], .int .i64 0]) ∧ Below W.heap.size W w' := fun W ht => by
  have := next_write s n f W ht h.f h.ok h.pl h.sw h.la.2
  rw [hw] at this
  exact this
theorem mv_fresh_no {s : St} {f : ByteArray} {n : Nd} {T : List ByteArray} {U : List Bool} {V : List Int} (h : WrAt s f n) (kns : List Int) (rf : Bool) (h1 : s.laid ≠ pgsN n s) (h2 : ¬ s.laid < s.sp.length) (hU : ∀ k : Nat, k < 64 → U[k]? = some true) :
    Moves s.kd f T U V kns rf T U V kns true (frsR s (-1)) := by
  have hw : wrA s (pgsN n s) = (3, 0, 0) := by unfold wrA; rw [if_neg h1, if_neg h2]
  refine ⟨3, 0, 0, 0, -1, txtN n s, ⟨#[]⟩, false, h.next hw, ⟨Or.inr (Or.inr ⟨rfl, rfl, rfl, h.pl.kd, ⟨_, txtN_unp h.pl⟩, ⟨true, hU 0 (by omega)⟩, rfl, rfl, rfl, Or.inr ⟨hU, rfl, rfl, rfl, rfl, rfl, rfl⟩⟩)⟩, fun W ht => ?_⟩
  exact tell_tellFresh_pass s n f ⟨#[]⟩ 0 (-1) false W ht h.f h.ok h.pl h.sw h.la.2 _ (fun kv vv bv pv xv yv fr1 W1 hM => tellFresh_no s kv vv bv pv xv yv fr1 W W1 _ hM) (by rw [hw])
theorem mv_fresh_on {s : St} {f : ByteArray} {n : Nd} {T : List ByteArray} {U : List Bool} {V : List Int} (h : WrAt s f n) (kns : List Int) (rf : Bool) (h1 : s.laid ≠ pgsN n s) (h2 : ¬ s.laid < s.sp.length) {g : Nat} (g1 : 1 ≤ g) (g64 : g < 64) (hg : U[g]? = some false) (hU : ∀ k : Nat, k < g → U[k]? = some true) (hT : ∃ t0, T[g]? = some t0) (hV : ∃ v0, V[g]? = some v0) (hok : StOk (frsS s g)) :
    Moves s.kd f T U V kns rf (T.set g (txtN n s)) (U.set g true) (V.set g 0) (kns.set g 0) rf (.on (frsS s g)) := by
  have hw : wrA s (pgsN n s) = (3, 0, 0) := by unfold wrA; rw [if_neg h1, if_neg h2]
  have hst := h.step
  have hl := h.ok.sp2
  have hs2 := h.ok.spl
  refine ⟨3, 0, 0, 0, g, txtN n s, ⟨#[]⟩, false, h.next hw, ⟨Or.inr (Or.inr ⟨rfl, rfl, rfl, h.pl.kd, ⟨_, txtN_unp h.pl⟩, ⟨true, hU 0 (by omega)⟩, rfl, rfl, rfl, Or.inl ⟨g, g64, hg, hU, hT, hV, rfl, rfl, rfl, rfl, rfl, rfl⟩⟩)⟩, fun W ht => ?_⟩
  exact tell_tellFresh_pass s n f ⟨#[]⟩ 0 g false W ht h.f h.ok h.pl h.sw h.la.2 _ (fun kv vv bv pv xv yv fr1 W1 hM => tellFresh_on s g kv vv bv pv xv yv fr1 W W1 _ ht rfl (by omega) (by omega) hl (by omega) h.la.1 h.la.2 hok.i (by omega) h.ok.step.1 hM) (by rw [hw])
theorem mv_spare {s : St} {f : ByteArray} {n : Nd} {T : List ByteArray} {U : List Bool} {V : List Int} (h : WrAt s f n) (kns : List Int) (rf : Bool) (h1 : s.laid < pgsN n s) {p : Nat} {ver : Int} (h2 : s.sp[s.laid.toNat]? = some (p : Int)) (h3 : s.sv[s.laid.toNat]? = some ver) (hU : U[p]? = some true) (hV : V[p]? = some ver) (hk : kns[p]? = some ver) (hT : ∃ t0, T[p]? = some t0) (hvb : ∀ x ∈ s.sv, 0 ≤ x ∧ x ≤ 1000000000) (hok : StOk (sprS s)) :
    Moves s.kd f T U V kns rf (T.set p (txtN n s)) U (V.set p (ver + 1)) (kns.set p (ver + 1)) rf (.on (sprS s)) := by
  have hla := h.la
  have hlt : s.laid.toNat < s.sp.length := (List.getElem?_eq_some_iff.1 h2).1
  have hw : wrA s (pgsN n s) = (2, (p : Int), ver) := by unfold wrA; rw [if_neg (by omega), if_pos (by omega), h2, h3]; rfl
  have hst := h.step
  have hl := h.ok.sp2
  have hs2 := h.ok.spl
  have hp63 := h.ok.sp _ (List.mem_of_getElem? h2)
  have hv := hvb _ (List.mem_of_getElem? h3)
  refine ⟨2, p, ver, 0, 0, txtN n s, ⟨#[]⟩, true, h.next hw, ⟨Or.inr (Or.inl ⟨p, rfl, rfl, by omega, hv.1, hv.2, h.pl.kd, ⟨_, txtN_unp h.pl⟩, hU, hk, rfl, rfl, rfl, rfl, rfl, Or.inl ⟨hV, rfl, hT, rfl, rfl, rfl⟩⟩)⟩, fun W ht => ?_⟩
  exact tell_tellSpare_pass s n f ⟨#[]⟩ 0 0 true W ht h.f h.ok h.pl h.sw h.la.2 _ (fun kv vv bv pv xv yv fr1 W1 hM => tellSpare_yes s kv vv bv pv xv yv fr1 W W1 _ ht rfl h.la.1 (by omega) (by omega) (fun x hx => by have := hvb x hx; omega) hok.i (by omega) h.ok.step.1 hM) ⟨by rw [hw], h1⟩
theorem mv_swap_no {s : St} {f : ByteArray} {n : Nd} {T : List ByteArray} {U : List Bool} {V : List Int} (h : WrAt s f n) (kns : List Int) (rf : Bool) (h1 : s.laid = pgsN n s) {p : Nat} {cur : Int} (h2 : s.pg = (p : Int)) (hU : U[p]? = some true) (hV : V[p]? = some cur) (hne : cur ≠ s.ver) (hk : kns[p]? = some s.ver) (hvb : 0 ≤ s.ver ∧ s.ver ≤ 1000000000) (hok : StOk { clrS s with pg := s.pg, step := s.step + 1 }) :
    Moves s.kd f T U V kns rf T U V kns rf (.on { clrS s with pg := s.pg, step := s.step + 1 }) := by
  have hw : wrA s (pgsN n s) = (2, s.pg, s.ver) := by unfold wrA; rw [if_pos h1]
  have hst := h.step
  have hpg := h.ok.pg
  refine ⟨2, s.pg, s.ver, 0, 0, txtN n s, ⟨#[]⟩, false, h.next hw, ⟨Or.inr (Or.inl ⟨p, rfl, h2, by omega, hvb.1, hvb.2, h.pl.kd, ⟨_, txtN_unp h.pl⟩, hU, hk, rfl, rfl, rfl, rfl, rfl, Or.inr ⟨cur, hV, hne, rfl, rfl, rfl, rfl⟩⟩)⟩, fun W ht => ?_⟩
  exact tell_swap_pass s n f ⟨#[]⟩ 0 0 false W ht h.f h.ok h.pl h.sw h.la.2 _ (fun kv vv bv pv ka va ax ay kc vc cx cy T W1 ht1 hv _ _ _ _ => tellSwap_not s n (pgsN n s) (lowV n s) T kv vv bv pv ka va ax ay kc vc cx cy W1 ht1 hv hok.i (by omega) h.ok.step.1 hpg.1) ⟨by rw [hw], h1⟩
theorem mv_swap_fin {s : St} {f : ByteArray} {n : Nd} {T : List ByteArray} {U : List Bool} {V : List Int} (h : WrAt s f n) (kns : List Int) (rf : Bool) (h1 : s.laid = pgsN n s) {p : Nat} (h2 : s.pg = (p : Int)) (hU : U[p]? = some true) (hV : V[p]? = some s.ver) (hT : ∃ t0, T[p]? = some t0) (hk : kns[p]? = some s.ver) (hvb : 0 ≤ s.ver ∧ s.ver ≤ 1000000000) (hpg : pgsN n s ≠ 1) :
    Moves s.kd f T U V kns rf (T.set p (txtN n s)) U (V.set p (s.ver + 1)) (kns.set p (s.ver + 1)) rf (if s.lv = 0 then .fin 0 (fndB n.ks s.key n.ks.length) (fndV n.ks n.vs s.key n.ks.length) s.step [] [] [] else .fin 0 false 0 s.pt [] [] []) := by
  have hw : wrA s (pgsN n s) = (2, s.pg, s.ver) := by unfold wrA; rw [if_pos h1]
  have hpg2 := h.ok.pg
  have hb := right_bd n h.pl.un.1
  refine ⟨2, s.pg, s.ver, 0, 0, txtN n s, ⟨#[]⟩, true, h.next hw, ⟨Or.inr (Or.inl ⟨p, rfl, h2, by omega, hvb.1, hvb.2, h.pl.kd, ⟨_, txtN_unp h.pl⟩, hU, hk, rfl, rfl, rfl, rfl, rfl, Or.inl ⟨hV, rfl, hT, rfl, rfl, rfl⟩⟩)⟩, fun W ht => ?_⟩
  refine tell_swap_pass s n f ⟨#[]⟩ 0 0 true W ht h.f h.ok h.pl h.sw h.la.2 _ (fun kv vv bv pv ka va ax ay kc vc cx cy T W1 ht1 hv hkd hvd _ _ => ?_) ⟨by rw [hw], h1⟩
  by_cases hl : s.lv = 0
  · rw [if_pos hl]
    exact (tellSwap_fin0 s n (pgsN n s) (lowV n s) T kv vv bv pv ka va ax ay kc vc cx cy W1 ht1 hv hl hkd hvd hb.2.2.2.1 hb.2.2.2.2.1 hpg).mono fun _ _ ⟨he, hb⟩ => ⟨⟨rfl, rfl, rfl, he⟩, hb⟩
  · rw [if_neg hl]
    exact (tellSwap_finN s n (pgsN n s) (lowV n s) T kv vv bv pv ka va ax ay kc vc cx cy W1 ht1 hv hl hpg).mono fun _ _ ⟨he, hb⟩ => ⟨⟨rfl, rfl, rfl, he⟩, hb⟩
def enS (n : Nd) (s : St) : St := entS { clrS s with pt := if s.lv = 0 then s.step else s.pt } (lowV n s)
theorem mv_swap_ent {s : St} {f : ByteArray} {n : Nd} {T : List ByteArray} {U : List Bool} {V : List Int} (h : WrAt s f n) (kns : List Int) (rf : Bool) (h1 : s.laid = pgsN n s) {p : Nat} (h2 : s.pg = (p : Int)) (hU : U[p]? = some true) (hV : V[p]? = some s.ver) (hT : ∃ t0, T[p]? = some t0) (hk : kns[p]? = some s.ver) (hvb : 0 ≤ s.ver ∧ s.ver ≤ 1000000000) (hpg : pgsN n s = 1) (hok : StOk (enS n s)) :
    Moves s.kd f T U V kns rf (T.set p (txtN n s)) U (V.set p (s.ver + 1)) (kns.set p (s.ver + 1)) rf (.on (enS n s)) := by
  have hw : wrA s (pgsN n s) = (2, s.pg, s.ver) := by unfold wrA; rw [if_pos h1]
  have hst := h.step
  have hpg2 := h.ok.pg
  have hb := right_bd n h.pl.un.1
  have hl2 := h.ok.sp2
  have hla := h.ok.laidL
  have hl9 : 0 ≤ s.lv ∧ s.lv ≤ 9 := by rw [← h.pl.lv]; exact ⟨hb.1, hb.2.1⟩
  refine ⟨2, s.pg, s.ver, 0, 0, txtN n s, ⟨#[]⟩, true, h.next hw, ⟨Or.inr (Or.inl ⟨p, rfl, h2, by omega, hvb.1, hvb.2, h.pl.kd, ⟨_, txtN_unp h.pl⟩, hU, hk, rfl, rfl, rfl, rfl, rfl, Or.inl ⟨hV, rfl, hT, rfl, rfl, rfl⟩⟩)⟩, fun W ht => ?_⟩
  refine tell_swap_pass s n f ⟨#[]⟩ 0 0 true W ht h.f h.ok h.pl h.sw h.la.2 _ (fun kv vv bv pv ka va ax ay kc vc cx cy T W1 ht1 hv hkd hvd hcx hcy => ?_) ⟨by rw [hw], h1⟩
  have hokI := hok.i
  unfold enS at hokI ⊢
  by_cases hl : s.lv = 0
  · rw [if_pos hl] at hokI ⊢
    exact tellSwap_ent0 s n (pgsN n s) (lowV n s) T kv vv bv pv ka va ax ay kc vc cx cy W1 ht1 hv hl hkd hvd hb.2.2.2.1 hb.2.2.2.2.1 hpg (by omega) hl2 h.ok.spl hcx hcy hokI (by omega) h.ok.step.1 hl9
  · rw [if_neg hl] at hokI ⊢
    exact tellSwap_entN s n (pgsN n s) (lowV n s) T kv vv bv pv ka va ax ay kc vc cx cy W1 ht1 hv hl hpg (by omega) hl2 h.ok.spl hcx hcy hokI (by omega) h.ok.step.1 hl9
theorem move_on (x : Wd) (d : Dd) (c i : Nat) (rf' : Bool) (kns' V' : List Int) (T' : List ByteArray) (U' : List Bool) (s' : St) (fr : List As) (w0 w : World) (B : Nat) (htab : Tab w0) (hB : B = w0.heap.size) (hc : c < 64) (hb : x.bs[c]? = some (i : Int)) (hd : x.ds[i]? = some d) (hlive : d.live) (hkp : x.kp = false)
    (hSt : x.wt = true → ∀ W, PgR x.gw x.tg x.tc x.ug x.uc T' U' W → Calls Tryd.prog 84 #[.pointer (some ⟨x.gw, 0, none⟩)] W fun e w' => e = .returned (.bool true) ∧ Below W.heap.size W w')
    (hnd : x.ds.length ≤ 100000000) (hnt : d.ts.length ≤ 100000000) (hnw : 0 ≤ x.now ∧ x.now ≤ 100000000000) (hA : Moves d.k d.f x.T x.U x.V d.kns d.rf T' U' V' kns' rf' (.on s')) (h : M w0 B w (x.as ++ fr)) :
    Calls Tryd.prog 56 #[.pointer (some ⟨x.gw, 0, none⟩), .int .i64 c] w fun e w' => (∃ u, e = .returned u) ∧ ∃ tm' f', f'.data.toList = frT s' ∧ M w0 B w' (({ x with T := T', U := U', V := V', now := x.now + 1, rf := x.rf || rf', ds := x.ds.set i { d with tm := tm', f := f', ts := d.ts ++ [x.now], kns := kns', rf := rf' } } : Wd).as ++ fr) := by
  obtain ⟨ak, ap, av, rv, rp, at', rt, rd, hN, hR, hT⟩ := hA
  exact sys_go x d c i ak ap av rv rp at' rt rd rf' kns' V' T' U' (fun f => f.data.toList = frT s') fr w0 w B htab hB hc hb hd hlive hkp (fun e _ => hSt e) hnd hnt hnw hN hR (fun W ht => (hT W ht).mono fun _ _ ⟨⟨c5, he, hc5⟩, hm⟩ => ⟨c5, he, hc5, hm.bl⟩) h
theorem move_fin (x : Wd) (d : Dd) (c i : Nat) (rf' : Bool) (kns' V' : List Int) (T' : List ByteArray) (U' : List Bool) (er : Int) (fd : Bool) (va pt : Int) (ks vs : List Int) (cs : List (Int × Int)) (fr : List As) (w0 w : World) (B : Nat) (htab : Tab w0) (hB : B = w0.heap.size) (hc : c < 64) (hb : x.bs[c]? = some (i : Int)) (hd : x.ds[i]? = some d) (hlive : d.live) (hkp : x.kp = false)
    (hSt : x.wt = true → ∀ W, PgR x.gw x.tg x.tc x.ug x.uc T' U' W → Calls Tryd.prog 84 #[.pointer (some ⟨x.gw, 0, none⟩)] W fun e w' => e = .returned (.bool true) ∧ Below W.heap.size W w')
    (hnd : x.ds.length ≤ 100000000) (hnt : d.ts.length ≤ 100000000) (hnw : 0 ≤ x.now ∧ x.now ≤ 100000000000) (hA : Moves d.k d.f x.T x.U x.V d.kns d.rf T' U' V' kns' rf' (.fin er fd va pt ks vs cs)) (h : M w0 B w (x.as ++ fr)) :
    Calls Tryd.prog 56 #[.pointer (some ⟨x.gw, 0, none⟩), .int .i64 c] w fun e w' => (∃ u, e = .returned u) ∧ ∃ tm' kv vv cv, M w0 B w' (({ x with T := T', U := U', V := V', bs := x.bs.set c (-1), now := x.now + 1, rf := x.rf || rf', ds := x.ds.set i { d with tm := tm', f := ⟨#[]⟩, ts := d.ts ++ [x.now], kns := kns', rf := rf', en := true, er := er, fd := fd, va := va, pt := pt, kv := kv, vv := vv, cv := cv, ks := ks, vs := vs, cs := cs } } : Wd).as ++ fr) := by
  obtain ⟨ak, ap, av, rv, rp, at', rt, rd, hN, hR, hT⟩ := hA
  exact sys_end x d c i ak ap av rv rp at' rt rd rf' kns' V' T' U' er fd va pt ks vs cs fr w0 w B htab hB hc hb hd hlive hkp (fun e _ => hSt e) hnd hnt hnw hN hR hT h
end Go.Proofs.YtajobgmnmbnhiaaDoor.Sap
