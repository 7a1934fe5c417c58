/- WHAT IS PROVED HERE: the six operations of saplingkeep's proved are answered as the document has it over the program at this commit, and the program is good (Good): scripts are played over it. Conditions: the table of powers of ten is laid. -/
import Derived.Test.YtjpgldeeopmbgaaDoorX34
namespace Go.Proofs.YtjpgldeeopmbgaaDoor.Sap
open Go.RowKit

/-- The map ahead of the i-th of the six. -/
def pvM (i : Nat) (q : Int) : Option Int := if i = 2 ∨ i = 3 ∨ i = 4 then (if q = 5 then some 50 else none) else none
def PvI (gw i : Nat) (x : Wd) : Prop := ∃ n t ver o, Inv gw x n t ver o ∧ (∀ c, c < 64 → x.bs[c]? = some (-1)) ∧ x.now ≤ 3 * (i : Int) ∧ x.ds.length = i ∧ ∀ q, lmap n q = pvM i q
def PbI (gw i : Nat) (x : Wd) : Prop := ∃ n, rightB n = true ∧ (∀ q, lmap n q = pvM i q) ∧ LoI gw n i (i + 1) (pvK i) (pvY i) (pvV i) (3 * (i : Int) + 3) x ∧ x.bs[0]? = some (i : Int)

theorem LoI.mono {gw : Nat} {n : Nd} {i N : Nat} {k key v top top' : Int} {x : Wd} (h : LoI gw n i N k key v top x) (ht : top ≤ top') : LoI gw n i N k key v top' x := by
  obtain ⟨n', t', ver', o', h1, h2, h3⟩ := h
  exact ⟨n', t', ver', o', h1, by omega, h3⟩
theorem lmap_of_mem {n : Nd} (hr : rightB n = true) {q : Int} (hq : q ∈ n.ks) : ∃ v, lmap n q = some v := by
  have hb := right_bd n hr
  obtain ⟨i, hi⟩ := List.mem_iff_getElem?.1 hq
  have hil := (List.getElem?_eq_some_iff.1 hi).1
  have hl := hb.2.2.2.1
  refine ⟨n.vs[i]'(by omega), look_mem ?_ (List.mem_iff_getElem?.2 ⟨i, ?_⟩)⟩
  · rw [fst_zip hl]
    exact (right_keys n hr).imp fun h e => by omega
  · rw [List.getElem?_zip_eq_some]
    exact ⟨hi, List.getElem?_eq_getElem (by omega)⟩
theorem no_keys {n : Nd} (hr : rightB n = true) (h : ∀ q, lmap n q = none) : n.ks = [] := by
  cases hk : n.ks with
  | nil => rfl
  | cons a r =>
    obtain ⟨v, hv⟩ := lmap_of_mem hr (q := a) (by rw [hk]; simp)
    rw [h] at hv; cases hv
theorem one_key {n : Nd} (hr : rightB n = true) (h : ∀ q, lmap n q = if q = 5 then some 50 else none) : n.ks = [5] := by
  have hall : ∀ q ∈ n.ks, q = 5 := fun q hq => by
    obtain ⟨v, hv⟩ := lmap_of_mem hr hq
    rw [h] at hv
    split at hv
    next e => exact e
    next => cases hv
  have h5 : (5 : Int) ∈ n.ks := (List.of_mem_zip (mem_look (show lmap n 5 = some 50 by rw [h, if_pos rfl]))).1
  have hp := right_keys n hr
  cases hk : n.ks with
  | nil => rw [hk] at h5; cases h5
  | cons a r =>
    rw [hk] at hall hp
    cases r with
    | nil => rw [hall a (by simp)]
    | cons b s =>
      have h1 := hall a (by simp)
      have h2 := hall b (by simp)
      have h3 := (List.pairwise_cons.1 hp).1 b (by simp)
      omega

theorem upd_get (key v : Int) (m : Int → Option Int) (q : Int) : upd 1 key v m q = m q := by
  unfold upd
  split
  · rw [if_neg (by decide), if_neg (by decide)]
  · rfl
theorem pvd (w0 : World) (htab : Tab w0) : Pvd (PvI w0.heap.size) (PbI w0.heap.size) w0.heap.size w0 w0.heap.size where
  pg := fun i x ⟨_, _, _, _, h, _⟩ => h.pg
  pb := fun i x ⟨_, _, _, ⟨_, _, _, _, h, _⟩, _⟩ => h.pg
  bg := fun i x W fr hi ⟨n, t, ver, o, h, hid, hn, hl, hm⟩ hM => by
    have ho : opR (pvK i) (pvY i) (pvV i) = true := by
      have : i = 0 ∨ i = 1 ∨ i = 2 ∨ i = 3 ∨ i = 4 ∨ i = 5 := by omega
      rcases this with rfl | rfl | rfl | rfl | rfl | rfl <;> decide
    refine (lone_begin w0 htab h hid (by omega) ho fr W hM).mono ?_
    rintro e w' ⟨hu, x', hL, hb, hM'⟩
    rw [hl] at hL hb
    exact ⟨hu, x', ⟨n, h.un.1, hm, hL.mono (by omega), hb⟩, hM'⟩
  al := fun i x W fr hi ⟨n, hr, hm, hL, hb⟩ hM => by
    refine (lone w0 htab x hL (by omega) (by omega) hb fr W hM).mono ?_
    rintro e w' ⟨hu, x', ⟨n', t', ver', o', h, ht, hl, hid, d', hd, hk, hkey, hv, h2⟩, hb', hM'⟩
    have hR : Res n (pvK i) (pvY i) (pvV i) n' d' := by
      rcases h2 with ⟨h3, -, -⟩ | ⟨-, -, h3⟩
      · rw [hb'] at h3; have := Option.some.inj h3; omega
      · exact h3
    have hid' : ∀ c, c < 64 → x'.bs[c]? = some (-1) := fun c hc => by
      by_cases h0 : c = 0
      · rw [h0]; exact hb'
      · exact hid c hc h0
    rw [if_pos hb'] at ht
    have key : d'.er = 0 ∧ d'.va = pvW i ∧ d'.fd = decide (0 < pvW i) ∧ ∀ q, lmap n' q = pvM (i + 1) q := by
      have hcase : i = 0 ∨ i = 1 ∨ i = 2 ∨ i = 3 ∨ i = 4 ∨ i = 5 := by omega
      rcases hcase with rfl | rfl | rfl | rfl | rfl | rfl
      · rcases hR with ⟨-, e1, -⟩ | ⟨a1, -, a3, a4, -, a6⟩ | ⟨-, e1, -⟩
        · exact absurd e1 (by decide)
        · exact ⟨a1, by rw [a4, hm]; rfl, by rw [a3, hm]; rfl, fun q => (a6 q).trans ((upd_get _ _ _ q).trans (hm q))⟩
        · exact absurd e1 (by decide)
      · rcases hR with ⟨-, -, -, e5, -⟩ | ⟨a1, -, a3, a4, -, a6⟩ | ⟨-, e1, -⟩
        · rw [no_keys hr fun q => by rw [hm]; rfl] at e5
          exact absurd e5 (by decide)
        · exact ⟨a1, by rw [a4, hm]; rfl, by rw [a3, hm]; rfl, fun q => by rw [a6 q]; unfold upd; rw [hm]; rfl⟩
        · exact absurd e1 (by decide)
      · rcases hR with ⟨-, e1, -⟩ | ⟨a1, -, a3, a4, -, a6⟩ | ⟨-, e1, -⟩
        · exact absurd e1 (by decide)
        · exact ⟨a1, by rw [a4, hm]; rfl, by rw [a3, hm]; rfl, fun q => (a6 q).trans ((upd_get _ _ _ q).trans (hm q))⟩
        · exact absurd e1 (by decide)
      · rcases hR with ⟨-, e1, -⟩ | ⟨-, e1, -⟩ | ⟨a1, -, a3, a4, a5⟩
        · exact absurd e1 (by decide)
        · exact absurd rfl e1
        · have hks := one_key hr fun q => by rw [hm]; rfl
          have hsc : (scK (rdS (pvK 3) (pvY 3) (pvV 3) 0) n).length = 1 := by
            unfold scK
            rw [hks]
            rfl
          rw [hsc] at a4 a5
          exact ⟨a1, a5, a4, fun q => by rw [a3, hm]; rfl⟩
      · rcases hR with ⟨-, e1, -⟩ | ⟨a1, -, a3, a4, -, a6⟩ | ⟨-, e1, -⟩
        · exact absurd e1 (by decide)
        · refine ⟨a1, by rw [a4, hm]; rfl, by rw [a3, hm]; rfl, fun q => ?_⟩
          rw [a6 q]
          unfold upd
          rw [hm]
          show (if q = 5 then (if (3 : Int) = 2 then some 0 else if (3 : Int) = 3 then none else pvM 4 q) else pvM 4 q) = none
          by_cases hq : q = 5
          · rw [if_pos hq]; rfl
          · rw [if_neg hq]
            show (if q = 5 then some (50 : Int) else none) = none
            rw [if_neg hq]
        · exact absurd e1 (by decide)
      · rcases hR with ⟨-, e1, -⟩ | ⟨a1, -, a3, a4, -, a6⟩ | ⟨-, e1, -⟩
        · exact absurd e1 (by decide)
        · exact ⟨a1, by rw [a4, hm]; rfl, by rw [a3, hm]; rfl, fun q => (a6 q).trans ((upd_get _ _ _ q).trans (hm q))⟩
        · exact absurd e1 (by decide)
    refine ⟨hu, x', i, d', ⟨n', t', ver', o', h, hid', ?_, hl, key.2.2.2⟩, hl, by omega, hd, key.1, key.2.1, key.2.2.1, hM'⟩
    have : ((0 : Nat) : Int) = 0 := rfl
    omega

theorem goodI : Good InvG rkI where
  pv := fun W ht => ⟨PvI W.heap.size, PbI W.heap.size, pvd W ht, fun tg tc ug uc vg vc bg bc => ⟨_, _, _, _, inv_first W.heap.size tg tc ug uc vg vc bg bc, fun c hc => by show (List.replicate 64 (-1 : Int))[c]? = _; rw [List.getElem?_replicate, if_pos hc], Int.le_refl _, rfl, fun q => rfl⟩⟩
  mc := fun W ht => mcI W ht
  ini := fun gw tg tc ug uc vg vc bg bc => ⟨⟨_, _, _, _, inv_first gw tg tc ug uc vg vc bg bc⟩, by show (0 : Nat) ≤ _; omega⟩
  ov := fun gw x ⟨⟨_, _, _, _, h⟩, _⟩ => h.ov
  over := fun gw x ⟨⟨_, _, _, _, h⟩, _⟩ hid hn => h.over hid hn

/-- Linear and Honest, over the program at this commit. -/
theorem linear_any (sv : Value) (ts : List Tn) (w : World) (htab : Tab w) (hT : TRd w sv ts) (hok : ∀ t ∈ ts, t.ok) (hlen : ts.length ≤ 1048576) :
    Calls Tryd.prog 8 #[sv] w fun e w' => e = .returned (.bool true) ∧ Below w.heap.size w w' :=
  linear_gen sv ts InvG rkI w htab hT hok hlen goodI fun _ _ ⟨⟨_, _, _, _, h⟩, _⟩ hid _ => h.sin hid
theorem honest_any (sv : Value) (ts : List Tn) (w : World) (htab : Tab w) (hT : TRd w sv ts) (hok : ∀ t ∈ ts, t.ok) (hlen : ts.length ≤ 1048576) :
    Calls Tryd.prog 11 #[sv] w fun e w' => e = .returned (.bool true) ∧ Below w.heap.size w w' :=
  honest_gen sv ts InvG rkI w htab hT hok hlen goodI
end Go.Proofs.YtjpgldeeopmbgaaDoor.Sap
