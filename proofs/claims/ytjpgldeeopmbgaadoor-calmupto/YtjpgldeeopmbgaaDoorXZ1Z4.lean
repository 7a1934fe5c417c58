/- WHAT IS PROVED HERE: the six operations of saplingkeep's proved are answered as the document has it over the program at this commit, and the program is good (Good): scripts are played over it. Conditions: the table of powers of ten is laid. -/
import Derived.Test.YtjpgldeeopmbgaaDoorXY7Y9
import Derived.Test.YtjpgldeeopmbgaaDoorXJ5P1
import Derived.Test.YtjpgldeeopmbgaaDoorXP3J3
namespace Go.Proofs.YtjpgldeeopmbgaaDoor.Sap
open Go.RowKit

/-- The map ahead of the i-th of the six. -/
def pvM (i : Nat) (q : Int) : Option Int := if i = 2 ∨ i = 3 ∨ i = 4 then (if q = 5 then some 50 else none) else none
def PvI (gw i : Nat) (x : Wd) : Prop := ∃ n t ver o, Inv gw x n t ver o ∧ (∀ c, c < 64 → x.bs[c]? = some (-1)) ∧ x.now ≤ 3 * (i : Int) ∧ x.ds.length = i ∧ ∀ q, lmap n q = pvM i q
def PbI (gw i : Nat) (x : Wd) : Prop := ∃ n, rightB n = true ∧ (∀ q, lmap n q = pvM i q) ∧ LoI gw n i (i + 1) (pvK i) (pvY i) (pvV i) (3 * (i : Int) + 3) x ∧ x.bs[0]? = some (i : Int)

theorem LoI.mono {gw : Nat} {n : Nd} {i N : Nat} {k key v top top' : Int} {x : Wd} (h : LoI gw n i N k key v top x) (ht : top ≤ top') : LoI gw n i N k key v top' x := by
  obtain ⟨n', t', ver', o', h1, h2, h3⟩ := h
  exact ⟨n', t', ver', o', h1, by omega, h3⟩
theorem lmap_of_mem {n : Nd} (hr : rightB n = true) {q : Int} (hq : q ∈ n.ks) : ∃ v, lmap n q = some v := by
  have hb := right_bd n hr
  obtain ⟨i, hi⟩ := List.mem_iff_getElem?.1 hq
  have hil := (List.getElem?_eq_some_iff.1 hi).1
  have hl := hb.2.2.2.1
  refine ⟨n.vs[i]'(by omega), look_mem ?_ (List.mem_iff_getElem?.2 ⟨i, ?_⟩)⟩
  · rw [fst_zip hl]
    exact (right_keys n hr).imp fun h e => by omega
  · rw [List.getElem?_zip_eq_some]
    exact ⟨hi, List.getElem?_eq_getElem (by omega)⟩
theorem no_keys {n : Nd} (hr : rightB n = true) (h : ∀ q, lmap n q = none) : n.ks = [] := by
  cases hk : n.ks with
  | nil => rfl
  | cons a r =>
    obtain ⟨v, hv⟩ := lmap_of_mem hr (q := a) (by rw [hk]; simp)
    rw [h] at hv; cases hv
theorem one_key {n : Nd} (hr : rightB n = true) (h : ∀ q, lmap n q = if q = 5 then some 50 else none) : n.ks = [5] := by
  have hall : ∀ q ∈ n.ks, q = 5 := fun q hq => by
    obtain ⟨v, hv⟩ := lmap_of_mem hr hq
    rw [h] at hv
    split at hv
    next e => exact e
    next => cases hv
  have h5 : (5 : Int) ∈ n.ks := (List.of_mem_zip (mem_look (show lmap n 5 = some 50 by rw [h, if_pos rfl]))).1
  have hp := right_keys n hr
  cases hk : n.ks with
  | nil => rw [hk] at h5; cases h5
  | cons a r =>
    rw [hk] at hall hp
    cases r with
    | nil => rw [hall a (by simp)]
    | cons b s =>
      have h1 := hall a (by simp)
      have h2 := hall b (by simp)
      have h3 := (List.pairwise_cons.1 hp).1 b (by simp)
      omega

theorem upd_get (key v : Int) (m : Int → Option Int) (q : Int) : upd 1 key v m q = m q := by
  unfold upd
  split
  · rw [if_neg (by decide), if_neg (by decide)]
  · rfl
theorem pvd (w0 : World) (htab : Tab w0) : Pvd (PvI w0.heap.size) (PbI w0.heap.size) w0.heap.size w0 w0.heap.size where
  pg := fun i x ⟨_, _, _, _, h, _⟩ => h.pg
  pb := fun i x ⟨_, _, _, ⟨_, _, _, _, h, _⟩, _⟩ => h.pg
  bg := fun i x W fr hi ⟨n, t, ver, o, h, hid, hn, hl, hm⟩ hM => by
    have ho : opR (pvK i) (pvY i) (pvV i) = true := by
      have : i = 0 ∨ i = 1 ∨ i = 2 ∨ i = 3 ∨ i = 4 ∨ i = 5 := by omega
      rcases this with rfl | rfl | rfl | rfl | rfl | rfl <;> decide
    refine (lone_begin w0 htab h hid (by omega) ho fr W hM).mono ?_
    rintro e w' ⟨hu, x', hL, hb, hM'⟩
    rw [hl] at hL hb
    exact ⟨hu, x', ⟨n, h.un.1, hm, hL.mono (by omega), hb⟩, hM'⟩
  al := fun i x W fr hi ⟨n, hr, hm, hL, hb⟩ hM => by
    refine (lone w0 htab x hL (by omega) (by omega) hb fr W hM).mono ?_
    rintro e w' ⟨hu, x', ⟨n', t', ver', o', h, ht, hl, hid, d', hd, hk, hkey, hv, h2⟩, hb', hM'⟩
    have hR : Res n (pvK i) (pvY i) (pvV i) n' d' := by
      rcases h2 with ⟨h3, -, -⟩ | ⟨-, -, h3⟩
      · rw [hb'] at h3; have := Option.some.inj h3; omega
      · exact h3
    have hid' : ∀ c, c < 64 → x'.bs[c]? = some (-1) := fun c hc => by
      by_cases h0 : c = 0
      · rw [h0]; exact hb'
      · exact hid c hc h0
    rw [if_pos hb'] at ht
    have key : d'.er = 0 ∧ d'.va = pvW i ∧ d'.fd = decide (0 < pvW i) ∧ ∀ q, lmap n' q = pvM (i + 1) q := by
      have hcase : i = 0 ∨ i = 1 ∨ i = 2 ∨ i = 3 ∨ i = 4 ∨ i = 5 := by omega
      rcases hcase with rfl | rfl | rfl | rfl | rfl | rfl
      · rcases hR with ⟨-, e1, -⟩ | ⟨a1, -, a3, a4, -, a6⟩ | ⟨-, e1, -⟩
        · exact absurd e1 (by decide)
        · exact ⟨a1, by rw [a4, hm]; rfl, by rw [a3, hm]; rfl, fun q => (a6 q).trans ((upd_get _ _ _ q).trans (hm q))⟩
        · exact absurd e1 (by decide)
      · rcases hR with ⟨-, -, -, e5, -⟩ | ⟨a1, -, a3, a4, -, a6⟩ | ⟨-, e1, -⟩
        · rw [no_keys hr fun q => by rw [hm]; rfl] at e5
          exact absurd e5 (by decide)
        · exact ⟨a1, by rw [a4, hm]; rfl, by rw [a3, hm]; rfl, fun q => by rw [a6 q]; unfold upd; rw [hm]; rfl⟩
        · exact absurd e1 (by decide)
      · rcases hR with ⟨-, e1, -⟩ | ⟨a1, -, a3, a4, -, a6⟩ | ⟨-, e1, -⟩
        · exact absurd e1 (by decide)
        · exact ⟨a1, by rw [a4, hm]; rfl, by rw [a3, hm]; rfl, fun q => (a6 q).trans ((upd_get _ _ _ q).trans (hm q))⟩
        · exact absurd e1 (by decide)
      · rcases hR with ⟨-, e1, -⟩ | ⟨-, e1, -⟩ | ⟨a1, -, a3, a4, a5⟩
        · exact absurd e1 (by decide)
        · exact absurd rfl e1
        · have hks := one_key hr fun q => by rw [hm]; rfl
          have hsc : (scK (rdS (pvK 3) (pvY 3) (pvV 3) 0) n).length = 1 := by
            unfold scK
            rw [hks]
            rfl
          rw [hsc] at a4 a5
          exact ⟨a1, a5, a4, fun q => by rw [a3, hm]; rfl⟩
      · rcases hR with ⟨-, e1, -⟩ | ⟨a1, -, a3, a4, -, a6⟩ | ⟨-, e1, -⟩
        · exact absurd e1 (by decide)
        · refine ⟨a1, by rw [a4, hm]; rfl, by rw [a3, hm]; rfl, fun q => ?_⟩
          rw [a6 q]
          unfold upd
          rw [hm]
          show (if q = 5 then (if (3 : Int) = 2 then some 0 else if (3 : Int) = 3 then none else pvM 4 q) else pvM 4 q) = none
          by_cases hq : q = 5
          · rw [if_pos hq]; rfl
          · rw [if_neg hq]
            show (if q = 5 then some (50 : Int) else none) = none
            rw [if_neg hq]
        · exact absurd e1 (by decide)
      · rcases hR with ⟨-, e1, -⟩ | ⟨a1, -, a3, a4, -, a6⟩ | ⟨-, e1, -⟩
        · exact absurd e1 (by decide)
        · exact ⟨a1, by rw [a4, hm]; rfl, by rw [a3, hm]; rfl, fun q => (a6 q).trans ((upd_get _ _ _ q).trans (hm q))⟩
        · exact absurd e1 (by decide)
    refine ⟨hu, x', i, d', ⟨n', t', ver', o', h, hid', ?_, hl, key.2.2.2⟩, hl, by omega, hd, key.1, key.2.1, key.2.2.1, hM'⟩
    have : ((0 : Nat) : Int) = 0 := rfl
    omega

theorem goodI : Good InvG rkI where
  pv := fun W ht => ⟨PvI W.heap.size, PbI W.heap.size, pvd W ht, fun tg tc ug uc vg vc bg bc => ⟨_, _, _, _, inv_first W.heap.size tg tc ug uc vg vc bg bc, fun c hc => by show (List.replicate 64 (-1 : Int))[c]? = _; rw [List.getElem?_replicate, if_pos hc], Int.le_refl _, rfl, fun q => rfl⟩⟩
  mc := fun W ht => mcI W ht
  ini := fun gw tg tc ug uc vg vc bg bc => ⟨⟨_, _, _, _, inv_first gw tg tc ug uc vg vc bg bc⟩, by show (0 : Nat) ≤ _; omega⟩
  ov := fun gw x ⟨⟨_, _, _, _, h⟩, _⟩ => h.ov
  over := fun gw x ⟨⟨_, _, _, _, h⟩, _⟩ hid hn => h.over hid hn

/-- Linear and Honest, over the program at this commit. -/
theorem linear_any (sv : Value) (ts : List Tn) (w : World) (htab : Tab w) (hT : TRd w sv ts) (hok : ∀ t ∈ ts, t.ok) (hlen : ts.length ≤ 1048576) :
    Calls Tryd.prog 8 #[sv] w fun e w' => e = .returned (.bool true) ∧ Below w.heap.size w w' :=
  linear_gen sv ts InvG rkI w htab hT hok hlen goodI fun _ _ ⟨⟨_, _, _, _, h⟩, _⟩ hid _ => h.sin hid
theorem honest_any (sv : Value) (ts : List Tn) (w : World) (htab : Tab w) (hT : TRd w sv ts) (hok : ∀ t ∈ ts, t.ok) (hlen : ts.length ≤ 1048576) :
    Calls Tryd.prog 11 #[sv] w fun e w' => e = .returned (.bool true) ∧ Below w.heap.size w w' :=
  honest_gen sv ts InvG rkI w htab hT hok hlen goodI
end Go.Proofs.YtjpgldeeopmbgaaDoor.Sap

/- WHAT IS PROVED HERE: Calm over the program at this commit: a Get that moves alone over a leaf has one access. Conditions: the table of powers of ten is laid; the script has at most 1048576 turns. -/
namespace Go.Proofs.YtjpgldeeopmbgaaDoor.Sap
open Go.RowKit

def GbI (gw : Nat) (key : Int) (x : Wd) : Prop := ∃ n i top, LoI gw n i (i + 1) 1 key 0 top x ∧ x.bs[0]? = some (i : Int) ∧ i ≤ 89000000 ∧ top ≤ 90000000

theorem askI (w0 : World) (htab : Tab w0) : AskOk InvG GbI w0 where
  bg := fun x key W fr ⟨⟨n, t, ver, o, h⟩, _⟩ hid hn hnd hk0 hk1 hM => by
    have ho : opR 1 key 0 = true := by simp [opR, hk0, hk1]
    refine (lone_begin w0 htab h hid (by omega) ho fr W hM).mono ?_
    rintro e w' ⟨hu, x', hL, hb, hM'⟩
    exact ⟨hu, x', ⟨n, x.ds.length, x.now + 3, hL, hb, hnd, by omega⟩, hM'⟩
  pb := fun x key ⟨_, _, _, ⟨_, _, _, _, h, _⟩, _⟩ => h.pg
  al := fun x key W fr ⟨n, i, top, hL, hb, hi, ht⟩ hM => by
    refine (lone w0 htab x hL ht (by omega) hb fr W hM).mono ?_
    rintro e w' ⟨hu, x', ⟨n', t', ver', o', h, -, hl, -, d', hd, -, -, -, h2⟩, hb', hM'⟩
    have hR : Res n 1 key 0 n' d' := by
      rcases h2 with ⟨h3, -, -⟩ | ⟨-, -, h3⟩
      · rw [hb'] at h3; have := Option.some.inj h3; omega
      · exact h3
    rcases hR with ⟨-, e1, -⟩ | ⟨a1, -, -, -, a5, -⟩ | ⟨-, e1, -⟩
    · exact absurd e1 (by decide)
    · obtain ⟨b1, b2⟩ := a5 rfl
      refine ⟨hu, x', i, d', n', h.pg, hl, by omega, hd, a1, ⟨by omega, h.U, t', h.T, h.un⟩, Or.inr ⟨?_, ?_⟩, hM'⟩
      · rw [b2, h.lv]; rfl
      · rw [b1, h.lv]
    · exact absurd e1 (by decide)

theorem calm_any (sv : Value) (ts : List Tn) (key client : Int) (w : World) (htab : Tab w) (hT : TRd w sv ts) (hok : ∀ t ∈ ts, t.ok) (hlen : ts.length ≤ 1048576) (hkey : I64 key) (hcl : I64 client) :
    Calls Tryd.prog 13 #[sv, .int .i64 key, .int .i64 client] w fun e w' => e = .returned (.bool true) ∧ Below w.heap.size w w' :=
  calm_gen sv ts key client InvG rkI GbI w htab hT hok hlen hkey hcl goodI fun W ht => askI W ht
end Go.Proofs.YtjpgldeeopmbgaaDoor.Sap

/- WHAT IS PROVED HERE: Pieces over the program at this commit: a Scan has one piece, which is what the leaf had. Conditions: the table of powers of ten is laid; the script has at most 1048576 turns. -/
namespace Go.Proofs.YtjpgldeeopmbgaaDoor.Sap
open Go.RowKit

theorem perm_len {a b : List Int} (ha : a.Nodup) (hb : b.Nodup) (h : ∀ q, q ∈ a ↔ q ∈ b) : a.length = b.length := ((List.perm_ext_iff_of_nodup ha hb).2 h).length_eq

theorem Inv.pcs {gw : Nat} {x : Wd} {n0 : Nd} {t : ByteArray} {ver : Int} {o : List Dn} (h : Inv gw x n0 t ver o) (hid : ∀ c, c < 64 → x.bs[c]? = some (-1)) : ∀ d ∈ x.ds, d.k = 4 → PcsOk x d := by
  intro d hd hk
  obtain ⟨he, hD⟩ := h.allEnded hid d hd
  have hE := hD.ed he
  obtain ⟨p, hp1, hp2⟩ := hE.p
  rcases hE.an with ⟨-, n, S⟩ | ⟨h4, -⟩
  case inr => exact absurd hk h4
  have hop := opR_parts hD.op
  have hr := right_bd n S.r
  have hz : (n.ks.zip n.vs).take n.ks.length = n.ks.zip n.vs := List.take_of_length_le (by simp; omega)
  obtain ⟨s1, s2⟩ := ad_spec n.ks n.vs d.key d.v [] [] n.ks.length hr.2.2.2.1 (Nat.le_refl _) rfl (by simp)
  have hv : (rdS d.k d.key d.v 0).val = d.v := by show valS d.k d.v = d.v; unfold valS; rw [if_neg (by omega)]
  have eK : scK (rdS d.k d.key d.v 0) n = adK n.ks d.key d.v [] n.ks.length := by unfold scK; rw [hv]; rfl
  have eV : scV (rdS d.k d.key d.v 0) n = adV n.ks n.vs d.key d.v [] [] n.ks.length := by unfold scV; rw [hv]; rfl
  rw [← eK, ← eV, ← S.ks, ← S.vs] at s1 s2
  rw [hz] at s2
  have hflen := List.length_filter_le (rng d.key (d.v + 1)) (n.ks.zip n.vs)
  rw [List.length_zip] at hflen
  have hzip : d.ks.zip d.vs = (n.ks.zip n.vs).filter (rng d.key (d.v + 1)) := by
    rw [s2, List.zip_nil_left, List.nil_append, List.take_of_length_le (by omega)]
  have hlenz : d.ks.length = ((n.ks.zip n.vs).filter (rng d.key (d.v + 1))).length := by rw [← hzip, List.length_zip]; omega
  have h5 := hr.2.2.2.2.2.1 S.lv
  have hlen5 : d.ks.length ≤ 5 := by omega
  have hasc : ((n.ks.zip n.vs).filter (rng d.key (d.v + 1))).Pairwise (fun a b => a.1 < b.1) := by
    refine List.Pairwise.filter _ ?_
    have := right_keys n S.r
    rw [← fst_zip hr.2.2.2.1] at this
    exact List.pairwise_map.1 this
  rw [← hzip] at hasc
  have hksp : d.ks.Pairwise (· < ·) := by
    have := List.pairwise_map.2 hasc
    rw [fst_zip s1] at this
    exact this
  have hat : d.at = d.ts[0]?.getD 0 := by unfold Dd.at; rw [S.pt]; rfl
  have ht0 : 0 < d.ts.length := by omega
  have htm : d.ts[0]?.getD 0 ∈ d.ts := by rw [List.getElem?_eq_getElem ht0]; exact List.getElem_mem ht0
  have hpos := (hD.lt _ htm).1
  have hmem : ∀ q u, (q, u) ∈ d.ks.zip d.vs ↔ (d.key ≤ q ∧ q ≤ d.v ∧ mapO (ahead o d.at) q = some u) := by
    intro q u
    rw [hzip, List.mem_filter, ← S.lm q]
    unfold rng lmap
    simp only [Bool.and_eq_true, decide_eq_true_eq]
    constructor
    · rintro ⟨h1, h2, h3⟩
      refine ⟨h2, by omega, look_mem ?_ h1⟩
      rw [fst_zip hr.2.2.2.1]
      exact (right_keys n S.r).imp fun h e => by omega
    · rintro ⟨h1, h2, h3⟩
      exact ⟨mem_look h3, h1, by omega⟩
  refine ⟨0, [d.v + 1], [0], d.v + 1, fun i => if i = 0 then 0 else d.ks.length, ⟨S.er, ?_, ?_, S.cs, rfl, rfl, by omega, s1, rfl, rfl, rfl, by rw [S.pt]; rfl, fun i hi => ?_, fun i hi => ?_, ⟨by omega, by omega⟩, by omega, Or.inr ⟨by omega, rfl⟩, by omega, by omega, by omega⟩⟩
  · rw [S.fd, S.ks]
  · rw [S.va, S.ks]
  · obtain rfl : i = 0 := by omega
    refine ⟨0, d.v + 1, d.ks.length, fun o' hp hs => ?_⟩
    rw [h.uniq hid hp hs, ← hat]
    obtain ⟨a1, a2, a3⟩ := tabO_look (ahead o d.at) (ahead_ok h.ok _)
    refine ⟨rfl, ht0, rfl, ?_, by show d.key < d.v + 1; omega, by omega, ?_, by simp, by simp, fun m hm => ?_⟩
    · show (-1 : Int) < d.ts[0]?.getD 0; omega
    · unfold cntW
      rw [List.take_length]
      refine perm_len (a1.filter _) (hksp.imp fun h e => by omega) fun q => ?_
      rw [List.mem_filter]
      simp only [Bool.and_eq_true, decide_eq_true_eq]
      show (q ∈ (tabO (ahead o d.at)).1 ∧ d.key ≤ q ∧ q < d.v + 1) ↔ q ∈ d.ks
      have hnz : (((tabO (ahead o d.at)).1.zip (tabO (ahead o d.at)).2).map Prod.fst).Nodup := by rw [fst_zip a2]; exact a1
      constructor
      · rintro ⟨h1, h2, h3⟩
        obtain ⟨u, hu⟩ : ∃ u, (q, u) ∈ (tabO (ahead o d.at)).1.zip (tabO (ahead o d.at)).2 := by
          rw [← fst_zip a2] at h1
          obtain ⟨y, hy, rfl⟩ := List.mem_map.1 h1
          exact ⟨y.2, hy⟩
        have := look_mem hnz hu
        rw [a3] at this
        exact (List.of_mem_zip ((hmem q u).2 ⟨h2, by omega, this⟩)).1
      · intro h1
        rw [← fst_zip s1] at h1
        obtain ⟨y, hy, rfl⟩ := List.mem_map.1 h1
        obtain ⟨b1, b2, b3⟩ := (hmem y.1 y.2).1 hy
        rw [← a3] at b3
        exact ⟨(List.of_mem_zip (mem_look b3)).1, b1, by omega⟩
    · show d.key ≤ d.ks[0 + m]?.getD 0 ∧ d.ks[0 + m]?.getD 0 < d.v + 1 ∧ ∀ fd v, ValR _ _ (d.ks[0 + m]?.getD 0) fd v → fd = true ∧ v = d.vs[0 + m]?.getD 0
      rw [Nat.zero_add, List.getElem?_eq_getElem hm, List.getElem?_eq_getElem (show m < d.vs.length by omega)]
      have hz2 : (d.ks[m], d.vs[m]'(by omega)) ∈ d.ks.zip d.vs := List.mem_iff_getElem?.2 ⟨m, by rw [List.getElem?_zip_eq_some]; exact ⟨List.getElem?_eq_getElem hm, List.getElem?_eq_getElem _⟩⟩
      obtain ⟨b1, b2, b3⟩ := (hmem _ _).1 hz2
      refine ⟨b1, by show d.ks[m] < d.v + 1; omega, fun fd v hV => ?_⟩
      obtain ⟨c1, c2⟩ := valR_look a1 a2 hV
      rw [a3] at c1 c2
      have b4 : mapO (ahead o d.at) ((some d.ks[m]).getD 0) = some (d.vs[m]'(by omega)) := b3
      rw [b4] at c1 c2
      exact ⟨c1, c2⟩
  · have := List.pairwise_iff_getElem.1 hksp i (i + 1) (by omega) hi (by omega)
    rw [List.getElem?_eq_getElem (show i < d.ks.length by omega), List.getElem?_eq_getElem hi]
    exact this

theorem pieces_any (sv : Value) (ts : List Tn) (w : World) (htab : Tab w) (hT : TRd w sv ts) (hok : ∀ t ∈ ts, t.ok) (hlen : ts.length ≤ 1048576) :
    Calls Tryd.prog 9 #[sv] w fun e w' => e = .returned (.bool true) ∧ Below w.heap.size w w' :=
  pieces_gen sv ts InvG rkI w htab hT hok hlen goodI fun _ _ ⟨⟨_, _, _, _, h⟩, _⟩ hid _ => h.pcs hid
end Go.Proofs.YtjpgldeeopmbgaaDoor.Sap
