/- WHAT IS PROVED HERE: plain facts: over pages that stand, each look of a Get leads nearer to its key's leaf, and the leaf has what the map has (no program's function is walked). Conditions: none but those named at each theorem. -/
import Derived.Test.YtajobgmnmbnhiaaDoorXC1T2
import Derived.Test.YtajobgmnmbnhiaaDoorXS2B3
import Derived.Test.YtajobgmnmbnhiaaDoorXT8L2
import Derived.Test.YtajobgmnmbnhiaaDoorXL4SC
import Derived.Test.YtajobgmnmbnhiaaDoorXL3G1
namespace Go.Proofs.YtajobgmnmbnhiaaDoor.Sap
open Go.RowKit

theorem chl_spec (ks vs : List Int) (key : Int) (k : Nat) (hk : k ≤ ks.length) (h0 : 0 < k) (hle : ks[0]?.getD 0 ≤ key) : ∃ i, i < k ∧ ks[i]?.getD 0 ≤ key ∧ chl ks vs key k = vs[i]?.getD 0 := by
  induction k with
  | zero => omega
  | succ k ih =>
    by_cases h : ks[k]?.getD 0 ≤ key
    · exact ⟨k, by omega, h, by rw [chl, if_pos h]⟩
    · have hk0 : 0 < k := by
        rcases Nat.eq_zero_or_pos k with rfl | h1
        · exact absurd hle h
        · exact h1
      obtain ⟨i, h1, h2, h3⟩ := ih (by omega) hk0
      exact ⟨i, by omega, h2, by rw [chl, if_neg h]; exact h3⟩

theorem fnd_none (ks vs : List Int) (key : Int) (k : Nat) (h : ∀ i, i < k → ks[i]?.getD 0 ≠ key) : fndB ks key k = false ∧ fndV ks vs key k = 0 := by
  induction k with
  | zero => exact ⟨rfl, rfl⟩
  | succ k ih =>
    have h1 := ih (fun i hi => h i (by omega))
    have h2 := h k (by omega)
    exact ⟨by rw [fndB, if_neg h2]; exact h1.1, by rw [fndV, if_neg h2]; exact h1.2⟩
theorem fnd_some (ks vs : List Int) (key : Int) (k i : Nat) (hi : i < k) (he : ks[i]?.getD 0 = key) (h : ∀ j, i < j → j < k → ks[j]?.getD 0 ≠ key) : fndB ks key k = true ∧ fndV ks vs key k = vs[i]?.getD 0 := by
  induction k with
  | zero => omega
  | succ k ih =>
    by_cases hk : i = k
    · subst hk
      exact ⟨by rw [fndB, if_pos he], by rw [fndV, if_pos he]⟩
    · have h1 := ih (by omega) (fun j h1 h2 => h j h1 (by omega))
      have h2 := h k (by omega) (by omega)
      exact ⟨by rw [fndB, if_neg h2]; exact h1.1, by rw [fndV, if_neg h2]; exact h1.2⟩

theorem zip_at {a b : List Int} {i : Nat} {x y : Int} (ha : a[i]? = some x) (hb : b[i]? = some y) : (x, y) ∈ a.zip b := by
  refine List.mem_of_getElem? (i := i) ?_
  rw [List.getElem?_zip_eq_some]; exact ⟨ha, hb⟩

/-- The leaf of a key has for it what the map has. -/
theorem get_found {K V ks vs : List Int} {key l h : Int} {fd : Bool} {v : Int} (hks : ks.Pairwise (· < ·)) (hlen : ks.length = vs.length) (hf : (K.zip V).filter (fun x => decide (l ≤ x.1) && decide (x.1 < h)) = ks.zip vs)
    (hlo : l ≤ key) (hhi : key < h) (hV : ValR K V key fd v) : fd = fndB ks key ks.length ∧ v = fndV ks vs key ks.length := by
  have hdis : ∀ i j, i < j → j < ks.length → ks[i]?.getD 0 < ks[j]?.getD 0 := by
    intro i j hij hj
    have := List.pairwise_iff_getElem.1 hks i j (by omega) hj hij
    simpa [List.getElem?_eq_getElem (show i < ks.length by omega), List.getElem?_eq_getElem hj] using this
  rcases hV with ⟨rfl, rfl, hno⟩ | ⟨i, rfl, h1, h2, -⟩
  · have hnk : ∀ i, i < ks.length → ks[i]?.getD 0 ≠ key := by
      intro i hi e
      apply hno
      rw [List.getElem?_eq_getElem hi] at e
      simp at e
      have hm : (ks[i], vs[i]'(by omega)) ∈ ks.zip vs := zip_at (List.getElem?_eq_getElem hi) (List.getElem?_eq_getElem (by omega))
      rw [← hf] at hm
      have := (List.mem_filter.1 hm).1
      rw [← e]
      exact mem_zip_key this
    have := fnd_none ks vs key ks.length hnk
    exact ⟨this.1.symm, this.2.symm⟩
  · have hm : (key, v) ∈ ks.zip vs := by
      rw [← hf]
      refine List.mem_filter.2 ⟨zip_at h1 h2, ?_⟩
      simp [hlo, hhi]
    obtain ⟨j, hj⟩ := List.mem_iff_getElem?.1 hm
    rw [List.getElem?_zip_eq_some] at hj
    have hjl : j < ks.length := (List.getElem?_eq_some_iff.1 hj.1).1
    have := fnd_some ks vs key ks.length j hjl (by rw [hj.1]; rfl) (fun i h1 h2 e => by
      have := hdis j i h1 h2
      rw [hj.1] at this
      simp only [Option.getD_some] at this
      omega)
    rw [hj.2] at this
    exact ⟨this.1.symm, this.2.symm⟩

/-- From a page whose node is not the key's leaf a look leads on, to one whose rank is less. -/
theorem look_on {T : List ByteArray} {p0 : Nat} {KV : List (Int × Int)} {rk : Nat → Nat} {lo : Nat → Int} (hT : Tree T p0 KV rk lo) {p : Nat} {n : Nd} {key : Int} (hA : AtP T 0 p0 p n) (hk1 : lo p ≤ key) (hk2 : key ≤ 9999) (hgo : n.lv ≠ 0 ∨ n.hi ≤ key) :
    ∃ q m, onwV n key = ((q : Nat) : Int) ∧ AtP T 0 p0 q m ∧ lo q ≤ key ∧ rk q < rk p := by
  obtain ⟨n', hA', hS⟩ := hT.ok p hA.2.1
  have e := hA.uniq hA'
  subst e
  by_cases hh : n.hi ≤ key
  · obtain ⟨q, m, a1, a2, -, a4, a5⟩ := hS.link (by omega)
    exact ⟨q, m, by unfold onwV; rw [if_pos hh]; exact a1, a2, by rw [a4]; exact hh, a5⟩
  · have hlv : n.lv ≠ 0 := by rcases hgo with h | h; exact h; exact absurd h hh
    obtain ⟨b1, b2⟩ := hS.kids hlv
    have hr := right_bd n (by obtain ⟨-, -, t, -, hu⟩ := hA; exact hu.1)
    have hlen : n.ks.length = n.vs.length := hr.2.2.2.1
    have hpos : 0 < n.ks.length := by
      rcases Nat.eq_zero_or_pos n.ks.length with h | h
      · rw [List.eq_nil_of_length_eq_zero h] at b1; cases b1
      · exact h
    obtain ⟨i, h1, h2, h3⟩ := chl_spec n.ks n.vs key n.ks.length (Nat.le_refl _) hpos (by rw [b1]; exact hk1)
    have hvi : i < n.vs.length := by omega
    obtain ⟨q, m, a1, a2, a3, a4⟩ := b2 i _ _ (List.getElem?_eq_getElem h1) (List.getElem?_eq_getElem hvi)
    rw [List.getElem?_eq_getElem h1] at h2
    rw [List.getElem?_eq_getElem hvi] at h3
    simp only [Option.getD_some] at h2 h3
    exact ⟨q, m, by unfold onwV; rw [if_neg hh, h3]; exact a1, a2, by rw [a3]; exact h2, a4⟩
end Go.Proofs.YtajobgmnmbnhiaaDoor.Sap

/- WHAT IS PROVED HERE: plain facts: over pages that stand, each look of a Get and of a Scan leads on, and what it has at its end is what the map has; the pieces of a Scan that has ended (no program's function is walked). Conditions: none but those named at each theorem. -/
namespace Go.Proofs.YtajobgmnmbnhiaaDoor.Sap
open Go.RowKit

/-- The keys and values of a Scan behind a leaf. -/
def scK (s : St) (n : Nd) : List Int := adK n.ks (wantV s) s.val s.keys n.ks.length
def scV (s : St) (n : Nd) : List Int := adV n.ks n.vs (wantV s) s.val s.keys s.vals n.ks.length
/-- How far it has come: up to the leaf's High, or its end, or, with twelve keys, behind the last. -/
def scB (s : St) (n : Nd) : Int := if 12 ≤ (scK s n).length then (scK s n).getLast?.getD 0 + 1 else if s.val + 1 < n.hi then s.val + 1 else n.hi
def scS (s : St) (n : Nd) : St := { s with keys := scK s n, vals := scV s n, bel := s.bel ++ [scB s n], pts := s.pts ++ [s.step] }
def scEnd (s : St) (n : Nd) : Bool := decide (12 ≤ (scK s n).length) || decide (scB s n = s.val + 1)
def scO (s : St) (n : Nd) : Out := if scEnd s n then .fin (decide (0 < (scK s n).length)) (scK s n).length s.step (scK s n) (scV s n) ((scS s n).bel.zip (scS s n).pts) else .on { scS s n with pg := n.lk, step := s.step + 1 }
theorem adK_len (ks : List Int) (l v : Int) (K : List Int) (k : Nat) (h : K.length ≤ 12) : (adK ks l v K k).length ≤ 12 := by
  induction k with
  | zero => exact h
  | succ k ih =>
    unfold adK
    split
    · rename_i hc; rw [List.length_append]; simp; omega
    · exact ih

def rng (a b : Int) (x : Int × Int) : Bool := decide (a ≤ x.1) && decide (x.1 < b)
def Asc (Z : List (Int × Int)) : Prop := Z.Pairwise (fun x y => x.1 < y.1)

theorem filter_rng_none {Z : List (Int × Int)} {a b : Int} (h : ∀ x ∈ Z, b ≤ x.1) : Z.filter (rng a b) = [] := by
  refine List.filter_eq_nil_iff.2 fun x hx => ?_
  have := h x hx
  simp [rng]; omega
/-- A sorted list's part in a range, cut in two. -/
theorem filter_split {Z : List (Int × Int)} {a b c : Int} (hZ : Asc Z) (h1 : a ≤ b) (h2 : b ≤ c) : Z.filter (rng a b) ++ Z.filter (rng b c) = Z.filter (rng a c) := by
  induction Z with
  | nil => rfl
  | cons x r ih =>
    obtain ⟨hx, hr⟩ := List.pairwise_cons.1 hZ
    have ih := ih hr
    by_cases hb : x.1 < b
    · have e2 : rng b c x = false := by simp [rng]; omega
      by_cases ha : a ≤ x.1
      · have e1 : rng a b x = true := by simp [rng]; omega
        have e3 : rng a c x = true := by simp [rng]; omega
        simp [e1, e2, e3, ih]
      · have e1 : rng a b x = false := by simp [rng]; omega
        have e3 : rng a c x = false := by simp [rng]; omega
        simp [e1, e2, e3, ih]
    · rw [filter_rng_none (Z := x :: r) (a := a) (b := b)]
      · rw [List.nil_append]
        refine List.filter_congr fun y hy => ?_
        have : b ≤ y.1 := by
          rcases List.mem_cons.1 hy with rfl | hy
          · omega
          · have := hx y hy; omega
        have e1 : decide (b ≤ y.1) = true := by simp; omega
        have e2 : decide (a ≤ y.1) = true := by simp; omega
        simp only [rng, e1, e2]
      · intro y hy
        rcases List.mem_cons.1 hy with rfl | hy
        · omega
        · have := hx y hy; omega
theorem asc_filter {Z : List (Int × Int)} (p : Int × Int → Bool) (h : Asc Z) : Asc (Z.filter p) := List.Pairwise.filter p h
/-- The first so many of a range, up to the last of them. -/
theorem filter_take {Z : List (Int × Int)} {a c : Int} {n : Nat} {y : Int × Int} (hZ : Asc Z) (hy : ((Z.filter (rng a c)).take n).getLast? = some y) : Z.filter (rng a (y.1 + 1)) = (Z.filter (rng a c)).take n := by
  obtain ⟨F, hF⟩ : ∃ F, Z.filter (rng a c) = F := ⟨_, rfl⟩
  have hA : Asc F := hF ▸ asc_filter _ hZ
  rw [hF] at hy ⊢
  have hyF : y ∈ F.take n := List.mem_of_getLast? hy
  have hyc : y.1 < c := by
    have := List.mem_of_mem_take hyF
    rw [← hF] at this
    have := (List.mem_filter.1 this).2
    simp [rng] at this; exact this.2
  have e : Z.filter (rng a (y.1 + 1)) = F.filter (fun x => decide (x.1 < y.1 + 1)) := by
    rw [← hF, List.filter_filter]
    refine List.filter_congr fun x _ => ?_
    simp only [rng]
    rw [Bool.eq_iff_iff]
    simp only [Bool.and_eq_true, decide_eq_true_eq]
    omega
  rw [e]
  conv => lhs; rw [← List.take_append_drop n F]
  rw [List.filter_append]
  have hsp : Asc (F.take n ++ F.drop n) := by rw [List.take_append_drop]; exact hA
  obtain ⟨p1, p2, p3⟩ := List.pairwise_append.1 hsp
  rw [List.filter_eq_self.2, List.filter_eq_nil_iff.2, List.append_nil]
  · intro x hx
    have := p3 y hyF x hx
    simp; omega
  · intro x hx
    obtain ⟨pre, hpre⟩ := List.getLast?_eq_some_iff.1 hy
    rw [hpre] at hx p1
    rcases List.mem_append.1 hx with hx | hx
    · have := (List.pairwise_append.1 p1).2.2 x hx y (by simp)
      simp; omega
    · rw [List.mem_singleton] at hx; subst hx
      simp; omega

theorem zip_snoc {a b : List Int} {x y : Int} (h : a.length = b.length) : (a ++ [x]).zip (b ++ [y]) = a.zip b ++ [(x, y)] := by
  rw [List.zip_append h]; rfl
/-- What a Scan takes over of a leaf. -/
theorem ad_spec (ks vs : List Int) (l v : Int) (K V : List Int) (k : Nat) (hl : ks.length = vs.length) (hk : k ≤ ks.length) (hKV : K.length = V.length) (h12 : K.length ≤ 12) :
    (adK ks l v K k).length = (adV ks vs l v K V k).length ∧ (adK ks l v K k).zip (adV ks vs l v K V k) = (K.zip V ++ ((ks.zip vs).take k).filter (rng l (v + 1))).take 12 := by
  induction k with
  | zero =>
    refine ⟨hKV, ?_⟩
    simp only [adK, adV, List.take_zero, List.filter_nil, List.append_nil]
    rw [List.take_of_length_le]
    rw [List.length_zip]; omega
  | succ k ih =>
    obtain ⟨ih1, ih2⟩ := ih (by omega)
    have hk1 : k < ks.length := by omega
    have hk2 : k < vs.length := by omega
    have hz : (ks.zip vs)[k]? = some (ks[k], vs[k]) := by rw [List.getElem?_zip_eq_some]; exact ⟨List.getElem?_eq_getElem hk1, List.getElem?_eq_getElem hk2⟩
    obtain ⟨R, hR⟩ : ∃ R, K.zip V ++ ((ks.zip vs).take k).filter (rng l (v + 1)) = R := ⟨_, rfl⟩
    rw [hR] at ih2
    have hlen : ((adK ks l v K k).zip (adV ks vs l v K V k)).length = (adK ks l v K k).length := by rw [List.length_zip, ih1, Nat.min_self]
    have hlR : (adK ks l v K k).length = min 12 R.length := by rw [← hlen, ih2, List.length_take]
    rw [List.take_add_one (l := ks.zip vs) (i := k), hz, Option.toList_some, List.filter_append, ← List.append_assoc, hR]
    simp only [adK, adV, List.getElem?_eq_getElem hk1, List.getElem?_eq_getElem hk2, Option.getD_some]
    by_cases hc : l ≤ ks[k] ∧ ks[k] ≤ v
    · have er : rng l (v + 1) (ks[k], vs[k]) = true := by simp [rng]; omega
      rw [List.filter_cons, if_pos er, List.filter_nil]
      by_cases h3 : (adK ks l v K k).length < 12
      · rw [if_pos ⟨hc.1, hc.2, h3⟩, if_pos ⟨hc.1, hc.2, h3⟩]
        refine ⟨by rw [List.length_append, List.length_append, ih1]; rfl, ?_⟩
        rw [zip_snoc ih1, ih2, List.take_of_length_le (by omega), List.take_of_length_le (by rw [List.length_append]; simp; omega)]
      · rw [if_neg (fun e => h3 e.2.2), if_neg (fun e => h3 e.2.2)]
        refine ⟨ih1, ?_⟩
        rw [ih2, List.take_append_of_le_length (by omega)]
    · have er : rng l (v + 1) (ks[k], vs[k]) = false := by simp [rng]; omega
      have hf : [(ks[k], vs[k])].filter (rng l (v + 1)) = [] := by simp [er]
      rw [hf, List.append_nil, if_neg (fun e => hc ⟨e.1, e.2.1⟩), if_neg (fun e => hc ⟨e.1, e.2.1⟩)]
      exact ⟨ih1, ih2⟩

theorem last_fst {a b : List Int} (h : a.length = b.length) : a.getLast? = (a.zip b).getLast?.map Prod.fst := by
  have : (a.zip b).map Prod.fst = a := List.map_fst_zip (by omega)
  rw [← List.getLast?_map, this]
/-- The state of a Scan behind a leaf holds the map's part up to where it has come. -/
theorem scan_leaf (s : St) (n : Nd) (Z : List (Int × Int)) (lp : Int) (hZ : Asc Z) (hkl : s.keys.length = s.vals.length) (h12 : s.keys.length < 12) (hs : s.keys.zip s.vals = Z.filter (rng s.key (wantV s))) (h1 : s.key ≤ wantV s) (h2 : wantV s ≤ s.val) (hlp : lp ≤ wantV s) (hhi : wantV s < n.hi)
    (hleaf : Z.filter (rng lp n.hi) = n.ks.zip n.vs) (hn : n.ks.length = n.vs.length) :
    (scK s n).length = (scV s n).length ∧ (scK s n).zip (scV s n) = Z.filter (rng s.key (scB s n)) ∧ wantV s < scB s n ∧ scB s n ≤ s.val + 1 ∧ (scK s n).length ≤ 12 ∧
      (scEnd s n = false → scB s n = n.hi ∧ n.hi ≤ s.val ∧ (scK s n).length < 12) ∧ (scEnd s n = true → ((scK s n).length = 12 ∧ scB s n = (scK s n).getLast?.getD 0 + 1) ∨ ((scK s n).length < 12 ∧ scB s n = s.val + 1)) := by
  obtain ⟨L, hL⟩ : ∃ L, wantV s = L := ⟨_, rfl⟩
  obtain ⟨E, hE⟩ : ∃ E, (if s.val + 1 < n.hi then s.val + 1 else n.hi) = E := ⟨_, rfl⟩
  have hE1 : E ≤ s.val + 1 ∧ E ≤ n.hi ∧ (E = s.val + 1 ∨ E = n.hi) := by rw [← hE]; split <;> omega
  obtain ⟨a1, a2⟩ := ad_spec n.ks n.vs L s.val s.keys s.vals n.ks.length hn (Nat.le_refl _) hkl (by omega)
  have e1 : (n.ks.zip n.vs).take n.ks.length = n.ks.zip n.vs := List.take_of_length_le (by rw [List.length_zip]; omega)
  have e2 : (n.ks.zip n.vs).filter (rng L (s.val + 1)) = Z.filter (rng L E) := by
    rw [← hleaf, List.filter_filter]
    refine List.filter_congr fun x _ => ?_
    simp only [rng]
    rw [Bool.eq_iff_iff]
    simp only [Bool.and_eq_true, decide_eq_true_eq]
    omega
  have eK : adK n.ks L s.val s.keys n.ks.length = scK s n := by rw [← hL]; rfl
  have eV : adV n.ks n.vs L s.val s.keys s.vals n.ks.length = scV s n := by rw [← hL]; rfl
  rw [eK, eV] at a1 a2
  rw [hL] at hs h1 h2 hlp hhi ⊢
  rw [e1, e2, hs] at a2
  have hl12 : (scK s n).length ≤ 12 := adK_len _ _ _ _ _ (by omega)
  have hA : (Z.filter (rng s.key L)).length < 12 := by rw [← hs, List.length_zip]; omega
  by_cases hf : 12 ≤ (scK s n).length
  · have hB : scB s n = (scK s n).getLast?.getD 0 + 1 := by unfold scB; rw [if_pos hf]
    have hz : ((scK s n).zip (scV s n)).length = 12 := by rw [List.length_zip]; omega
    have hX : 12 ≤ (Z.filter (rng s.key L) ++ Z.filter (rng L E)).length := by rw [a2, List.length_take] at hz; omega
    obtain ⟨X, hXe⟩ : ∃ X, Z.filter (rng s.key L) ++ Z.filter (rng L E) = X := ⟨_, rfl⟩
    have hlast : (X.take 12).getLast? = some (X[11]'(by rw [← hXe]; omega)) := by
      rw [List.getLast?_eq_getElem?, List.length_take, Nat.min_eq_left (by rw [← hXe]; omega), List.getElem?_take, if_pos (by omega), List.getElem?_eq_getElem]
    obtain ⟨y, hy⟩ : ∃ y, X[11]'(by rw [← hXe]; omega) = y := ⟨_, rfl⟩
    rw [hy] at hlast
    have hyB : y ∈ Z.filter (rng L E) := by
      have h3 : X[11]? = some y := by rw [← hy]; exact List.getElem?_eq_getElem _
      rw [← hXe, List.getElem?_append_right (by omega)] at h3
      exact List.mem_of_getElem? h3
    have hyr := (List.mem_filter.1 hyB).2
    simp only [rng, Bool.and_eq_true, decide_eq_true_eq] at hyr
    have hk : (scK s n).getLast?.getD 0 = y.1 := by rw [last_fst a1, a2, hXe, hlast]; rfl
    rw [hk] at hB
    have hXf : X = Z.filter (rng s.key E) := by rw [← hXe]; exact filter_split hZ h1 (by omega)
    have ht := filter_take hZ (by rw [← hXf]; exact hlast)
    refine ⟨a1, ?_, by omega, by omega, hl12, fun he => ?_, fun _ => Or.inl ⟨by omega, by rw [hB, hk]⟩⟩
    · rw [a2, hXe, hB, ht, hXf]
    · unfold scEnd at he; simp [hf] at he
  · have hB : scB s n = E := by unfold scB; rw [if_neg hf, hE]
    have hz : ((scK s n).zip (scV s n)).length < 12 := by rw [List.length_zip]; omega
    have hX : (Z.filter (rng s.key L) ++ Z.filter (rng L E)).length ≤ 12 := by rw [a2, List.length_take] at hz; omega
    rw [List.take_of_length_le hX] at a2
    have hLE : L < E := by omega
    refine ⟨a1, by rw [a2, hB]; exact filter_split hZ h1 (by omega), by omega, by omega, hl12, fun he => ?_, fun he => Or.inr ⟨by omega, ?_⟩⟩
    · unfold scEnd at he
      simp only [Bool.or_eq_false_iff, decide_eq_false_iff_not] at he
      omega
    · unfold scEnd at he
      simp only [Bool.or_eq_true, decide_eq_true_eq] at he
      rcases he with he | he
      · exact absurd he hf
      · exact he
theorem keysOk_snoc2 (hi l : Int) (ks : List Int) (x : Int) (h : keysOk hi l ks = true) (h1 : (ks.getLast?.map (· + 1)).getD l ≤ x) (h2 : x < hi) : keysOk hi l (ks ++ [x]) = true := by
  induction ks generalizing l with
  | nil => simp [keysOk] at h1 ⊢; omega
  | cons k r ih =>
    simp only [keysOk, Bool.and_eq_true, decide_eq_true_eq] at h
    simp only [List.cons_append, keysOk, Bool.and_eq_true, decide_eq_true_eq]
    refine ⟨h.1, h.2.1, ih (k + 1) h.2.2 ?_⟩
    cases r with
    | nil => simpa using h1
    | cons a b =>
      obtain ⟨z, hz⟩ : ∃ z, (a :: b).getLast? = some z := ⟨_, List.getLast?_eq_some_getLast (by simp)⟩
      rw [List.getLast?_cons_cons, hz] at h1
      rw [hz]
      exact h1
theorem keysOk_mono (hi hi' l : Int) (ks : List Int) (h : keysOk hi l ks = true) (hh : hi ≤ hi') : keysOk hi' l ks = true := by
  induction ks generalizing l with
  | nil => rfl
  | cons k r ih =>
    simp only [keysOk, Bool.and_eq_true, decide_eq_true_eq] at h ⊢
    exact ⟨h.1, by omega, ih (k + 1) h.2.2⟩

/-- What Tell answers to the text of a node. -/
def tlO (s : St) (n : Nd) : Out :=
  if n.lv ≠ 0 ∨ n.hi ≤ wantV s then .on { s with pg := onwV n (wantV s), step := s.step + 1 }
  else if s.kd = 4 then scO s n
  else .fin (fndB n.ks s.key n.ks.length) (fndV n.ks n.vs s.key n.ks.length) s.step [] [] []
/-- Under which conditions. -/
structure TellOk (s : St) (n : Nd) : Prop where
  step : s.step ≤ 1000000000
  bel : s.bel.length ≤ 63
  keys : ∀ x ∈ s.keys, 0 ≤ x ∧ x ≤ 10000
  on : ∀ s', tlO s n = .on s' → 0 ≤ s'.pg ∧ StI s'
/-- What must be known of an operation's states for it to move alone. -/
def Goes (T : List ByteArray) (p0 : Nat) (P : Nat → St → Prop) (Q : Nat → Out → Prop) : Prop :=
  ∀ j s, P j s → j < p0 ∧ (StOk s ∧ s.sw = ⟨#[]⟩ ∧ (s.kd = 1 ∨ s.kd = 4)) ∧ ∃ (p : Nat) (n : Nd) (t : ByteArray), s.pg = (p : Int) ∧ p < p0 ∧ T[p]? = some t ∧ Unp t.data.toList n ∧ TellOk s n ∧ ((∃ s', tlO s n = .on s' ∧ P (j + 1) s') ∨ (∃ fd va pt ks vs cs, tlO s n = .fin fd va pt ks vs cs ∧ Q (j + 1) (.fin fd va pt ks vs cs)))

/-- A Get under way. -/
def GeP (p0 : Nat) (rk : Nat → Nat) (lo : Nat → Int) (key : Int) (j : Nat) (s : St) : Prop := ∃ p : Nat, s = ⟨1, key, 0, j, p, [], [], [], [], ⟨#[]⟩, 0, [], [], 0, 0, 0, 0, 0⟩ ∧ p < p0 ∧ lo p ≤ key ∧ j + rk p < p0
def GeQ (K V : List Int) (key : Int) (p0 j : Nat) (o : Out) : Prop := ∃ fd va pt, o = .fin fd va pt [] [] [] ∧ j ≤ p0 ∧ ∀ fd' v', ValR K V key fd' v' → fd' = fd ∧ v' = va

theorem GeP.ok {p0 : Nat} {rk : Nat → Nat} {lo : Nat → Int} {key : Int} {j : Nat} {s : St} (h : GeP p0 rk lo key j s) (h64 : p0 ≤ 64) (hk1 : 1 ≤ key) (hk2 : key ≤ 9999) : StOk s := by
  obtain ⟨p, rfl, hp, -, hj⟩ := h
  refine ⟨by simp [opR]; omega, by unfold Fr; simp, by unfold Fr; simp only; omega, by simp only; omega, by simp, by simp, by simp, rfl, by simp, rfl, by simp, rfl, Or.inr ⟨rfl, rfl, rfl, rfl⟩, by unfold Fr; simp, by unfold Fr; simp, by unfold Fr; simp, by unfold Fr; simp, by unfold Fr; simp, by unfold Fr; simp, (show (⟨#[]⟩ : ByteArray).size ≤ 47 by decide), Or.inl ⟨rfl, rfl, rfl⟩, by simp, by simp, Or.inr rfl, rfl, by simp, by simp, Or.inl ⟨rfl, rfl, rfl, rfl⟩⟩

theorem right_keys (n : Nd) (h : rightB n = true) : n.ks.Pairwise (· < ·) := by
  unfold rightB at h
  simp only [Bool.and_eq_true, decide_eq_true_eq] at h
  exact keysOk_pair _ _ _ h.2.2.2.2.2.1
theorem get_goes {T : List ByteArray} {p0 : Nat} {K V : List Int} {rk : Nat → Nat} {lo : Nat → Int} {key : Int} (hT : Tree T p0 (K.zip V) rk lo) (h64 : p0 ≤ 64) (hk1 : 1 ≤ key) (hk2 : key ≤ 9999) : Goes T p0 (GeP p0 rk lo key) (GeQ K V key p0) := by
  intro j s hP
  have hok := hP.ok h64 hk1 hk2
  obtain ⟨p, hs, hp, hlo, hj⟩ := hP
  obtain ⟨n, hA, hS⟩ := hT.ok p hp
  obtain ⟨-, -, t, ht, hu⟩ := hA
  have hw : wantV s = key := by rw [hs]; rfl
  refine ⟨by omega, ⟨hok, by rw [hs], Or.inl (by rw [hs])⟩, p, n, t, by rw [hs], hp, ht, hu, ?_⟩
  by_cases hgo : n.lv ≠ 0 ∨ n.hi ≤ key
  · have ho : tlO s n = .on { s with pg := onwV n (wantV s), step := s.step + 1 } := by unfold tlO; rw [if_pos (by rw [hw]; exact hgo)]
    obtain ⟨q, m, a1, a2, a3, a4⟩ := look_on hT ⟨Nat.zero_le _, hp, t, ht, hu⟩ hlo hk2 hgo
    have hP' : GeP p0 rk lo key (j + 1) { s with pg := onwV n (wantV s), step := s.step + 1 } := ⟨q, by rw [hw, a1, hs]; simp, a2.2.1, a3, by omega⟩
    refine ⟨⟨by rw [hs]; simp only; omega, by rw [hs]; simp, by rw [hs]; simp, fun s' e => ?_⟩, Or.inl ⟨_, ho, hP'⟩⟩
    rw [ho] at e
    cases e
    have := hP'.ok h64 hk1 hk2
    exact ⟨this.pg.1, this.i⟩
  · have hlv : n.lv = 0 := by
      rcases Int.lt_trichotomy n.lv 0 with h | h | h
      · exact absurd (Or.inl (by omega)) hgo
      · exact h
      · exact absurd (Or.inl (by omega)) hgo
    have hhi : key < n.hi := by
      rcases Int.lt_or_le key n.hi with h | h
      · exact h
      · exact absurd (Or.inr h) hgo
    have hkd : ¬ s.kd = 4 := by rw [hs]; simp
    have hkey : s.key = key := by rw [hs]
    have ho : tlO s n = .fin (fndB n.ks key n.ks.length) (fndV n.ks n.vs key n.ks.length) s.step [] [] [] := by unfold tlO; rw [if_neg (by rw [hw]; exact hgo), if_neg hkd, hkey]
    refine ⟨⟨by rw [hs]; simp only; omega, by rw [hs]; simp, by rw [hs]; simp, fun s' e => ?_⟩, Or.inr ⟨_, _, _, _, _, _, ho, ⟨_, _, _, rfl, by omega, fun fd' v' hV => ?_⟩⟩⟩
    · rw [ho] at e; cases e
    · have hr := right_bd n hu.1
      exact get_found (right_keys n hu.1) hr.2.2.2.1 (hS.leaf hlv) hlo hhi hV

/-- A Scan under way. -/
structure ScP (p0 : Nat) (K V : List Int) (rk : Nat → Nat) (lo : Nat → Int) (key val : Int) (j : Nat) (s : St) : Prop where
  kd : s.kd = 4
  ek : s.key = key
  ev : s.val = val
  step : s.step = (j : Int)
  pg : ∃ p : Nat, s.pg = (p : Int) ∧ p < p0 ∧ lo p ≤ wantV s ∧ j + rk p < p0
  kl : s.keys.length = s.vals.length
  k12 : s.keys.length < 12
  zip : s.keys.zip s.vals = (K.zip V).filter (rng key (wantV s))
  vals : ∀ x ∈ s.vals, 0 ≤ x ∧ x ≤ 9999
  bl : s.bel.length = s.pts.length
  bj : s.bel.length ≤ j
  bel : keysOk (val + 1) (key + 1) s.bel = true
  pts : keysOk (j : Int) 0 s.pts = true
  sw : s.sw = ⟨#[]⟩ ∧ s.ver = 0 ∧ s.laid = 0
  sp : s.sp = [] ∧ s.sv = []
  ent : s.lv = 0 ∧ s.low = 0 ∧ s.ch = 0 ∧ s.pt = 0
/-- A Scan that has ended. -/
def ScQ (K V : List Int) (key val : Int) (p0 j : Nat) (o : Out) : Prop :=
  ∃ va pt ks vs bel pts b, o = .fin (decide (0 < ks.length)) va pt ks vs (bel.zip pts) ∧ va = (ks.length : Int) ∧ j ≤ p0 ∧ bel.length = pts.length ∧ bel.length ≤ j ∧ bel.getLast? = some b ∧ pts.getLast? = some pt ∧ ks.length = vs.length ∧ ks.zip vs = (K.zip V).filter (rng key b) ∧
    keysOk (val + 2) (key + 1) bel = true ∧ keysOk (j : Int) 0 pts = true ∧ ks.length ≤ 12 ∧ ((ks.length = 12 ∧ b = ks.getLast?.getD 0 + 1) ∨ (ks.length < 12 ∧ b = val + 1))

theorem mem_of_zip {a b : List Int} (h : a.length = b.length) {x : Int} (hx : x ∈ a) : ∃ y, (x, y) ∈ a.zip b := by
  obtain ⟨i, hi⟩ := List.mem_iff_getElem?.1 hx
  have hil := (List.getElem?_eq_some_iff.1 hi).1
  exact ⟨b[i], zip_at hi (List.getElem?_eq_getElem (by omega))⟩
theorem wantV_0 {s : St} (h : s.lv = 0) : wantV s = s.bel.getLast?.getD s.key := by unfold wantV; rw [if_neg (by omega)]
theorem want_rng (s : St) (h0 : s.lv = 0) (hb : keysOk (s.val + 1) (s.key + 1) s.bel = true) (h : s.key ≤ s.val) : s.key ≤ wantV s ∧ wantV s ≤ s.val := by
  rw [wantV_0 h0]
  cases hl : s.bel.getLast? with
  | none => simp only [Option.getD_none]; omega
  | some x =>
    have := keysOk_all _ _ _ hb x (List.mem_of_getLast? hl)
    simp only [Option.getD_some]; omega
theorem ScP.keysIn {p0 : Nat} {K V : List Int} {rk : Nat → Nat} {lo : Nat → Int} {key val : Int} {j : Nat} {s : St} (h : ScP p0 K V rk lo key val j s) (hK : keysOk 10000 1 K = true) : ∀ x ∈ s.keys, 1 ≤ x ∧ x ≤ 9999 := by
  intro x hx
  obtain ⟨y, hy⟩ := mem_of_zip h.kl hx
  rw [h.zip] at hy
  have := keysOk_all _ _ _ hK x (mem_zip_key (List.mem_filter.1 hy).1)
  omega
theorem ScP.ok {p0 : Nat} {K V : List Int} {rk : Nat → Nat} {lo : Nat → Int} {key val : Int} {j : Nat} {s : St} (h : ScP p0 K V rk lo key val j s) (hK : keysOk 10000 1 K = true) (h64 : p0 ≤ 64) (hk1 : 1 ≤ key) (hk2 : key ≤ val) (hk3 : val ≤ 9999) : StOk s := by
  obtain ⟨p, e1, e2, e3, e4⟩ := h.pg
  have hkd := h.kd
  have hkey := h.ek
  have hval := h.ev
  have hst := h.step
  have hbj := h.bj
  refine ⟨by simp [opR]; omega, by unfold Fr; omega, by unfold Fr; omega, by omega, fun x hx => ?_, fun x hx => ?_, fun x hx => ?_, h.kl, h.k12, h.bl, by omega, by rw [hkey, hval]; exact h.bel, Or.inl hkd, by have := h.sw.2.1; unfold Fr; omega, by have := h.sw.2.2; unfold Fr; omega, by have := h.ent.1; unfold Fr; omega, by have := h.ent.2.1; unfold Fr; omega, by have := h.ent.2.2.1; unfold Fr; omega, by have := h.ent.2.2.2; unfold Fr; omega, by rw [h.sw.1]; decide, Or.inl h.sw, by rw [h.sp.1]; simp, by rw [h.sp.2]; simp, Or.inr h.sp.1, by rw [h.sp.1, h.sp.2], by rw [h.sp.1]; decide, by rw [h.sp.1, h.sw.2.2]; decide, Or.inl h.ent⟩
  · have := h.keysIn hK x hx; unfold Fr; omega
  · have := h.vals x hx; unfold Fr; omega
  · have := keysOk_all _ _ _ h.pts x hx; unfold Fr; omega
theorem adV_mem (ks vs : List Int) (l v : Int) (K V : List Int) (k : Nat) (hk : k ≤ vs.length) : ∀ x ∈ adV ks vs l v K V k, x ∈ V ∨ x ∈ vs := by
  induction k with
  | zero => exact fun x hx => Or.inl hx
  | succ k ih =>
    intro x hx
    unfold adV at hx
    split at hx
    · rcases List.mem_append.1 hx with hx | hx
      · exact ih (by omega) x hx
      · have hk2 : k < vs.length := by omega
        rw [List.mem_singleton, List.getElem?_eq_getElem hk2] at hx
        rw [hx]
        exact Or.inr (List.getElem_mem hk2)
    · exact ih (by omega) x hx

theorem keys_asc {K V : List Int} (hK : keysOk 10000 1 K = true) : Asc (K.zip V) := by
  have hp := keysOk_pair _ _ _ hK
  clear hK
  induction K generalizing V with
  | nil => exact List.Pairwise.nil
  | cons a r ih =>
    cases V with
    | nil => exact List.Pairwise.nil
    | cons b t =>
      obtain ⟨h1, h2⟩ := List.pairwise_cons.1 hp
      exact List.pairwise_cons.2 ⟨fun x hx => h1 x.1 (mem_zip_key hx), ih h2⟩

theorem scan_goes {T : List ByteArray} {p0 : Nat} {K V : List Int} {rk : Nat → Nat} {lo : Nat → Int} {key val : Int} (hT : Tree T p0 (K.zip V) rk lo) (hK : keysOk 10000 1 K = true) (h64 : p0 ≤ 64) (hk1 : 1 ≤ key) (hk2 : key ≤ val) (hk3 : val ≤ 9999) : Goes T p0 (ScP p0 K V rk lo key val) (ScQ K V key val p0) := by
  intro j s hP
  have hok := hP.ok hK h64 hk1 hk2 hk3
  have hkI := hP.keysIn hK
  obtain ⟨p, hpg, hp, hlo, hj⟩ := hP.pg
  obtain ⟨n, hA, hS⟩ := hT.ok p hp
  obtain ⟨-, -, t, ht, hu⟩ := hA
  have hr := right_bd n hu.1
  have hkd := hP.kd
  have hkey := hP.ek
  have hval := hP.ev
  have hst := hP.step
  have hbj := hP.bj
  have hbl := hP.bl
  obtain ⟨w1, w2⟩ := want_rng s hP.ent.1 (by rw [hkey, hval]; exact hP.bel) (by omega)
  have hT3 : s.step ≤ 1000000000 ∧ s.bel.length ≤ 63 ∧ ∀ x ∈ s.keys, 0 ≤ x ∧ x ≤ 10000 := ⟨by omega, by omega, fun x hx => by have := hkI x hx; omega⟩
  refine ⟨by omega, ⟨hok, hP.sw.1, Or.inr hkd⟩, p, n, t, hpg, hp, ht, hu, ?_⟩
  by_cases hgo : n.lv ≠ 0 ∨ n.hi ≤ wantV s
  · have ho : tlO s n = .on { s with pg := onwV n (wantV s), step := s.step + 1 } := by unfold tlO; rw [if_pos hgo]
    obtain ⟨q, m, a1, a2, a3, a4⟩ := look_on hT ⟨Nat.zero_le _, hp, t, ht, hu⟩ hlo (by omega) hgo
    have hP' : ScP p0 K V rk lo key val (j + 1) { s with pg := onwV n (wantV s), step := s.step + 1 } := by
      refine ⟨hkd, hkey, hval, ?_, ⟨q, a1, a2.2.1, a3, by omega⟩, hP.kl, hP.k12, hP.zip, hP.vals, hP.bl, ?_, hP.bel, keysOk_mono _ _ _ _ hP.pts (by omega), hP.sw, hP.sp, hP.ent⟩
      · show s.step + 1 = _; omega
      · show s.bel.length ≤ _; omega
    refine ⟨⟨hT3.1, hT3.2.1, hT3.2.2, fun s' e => ?_⟩, Or.inl ⟨_, ho, hP'⟩⟩
    rw [ho] at e
    cases e
    have := hP'.ok hK h64 hk1 hk2 hk3
    exact ⟨this.pg.1, this.i⟩
  · have hlv : n.lv = 0 := by
      rcases Int.lt_trichotomy n.lv 0 with h | h | h
      · exact absurd (Or.inl (by omega)) hgo
      · exact h
      · exact absurd (Or.inl (by omega)) hgo
    have hhi : wantV s < n.hi := by
      rcases Int.lt_or_le (wantV s) n.hi with h | h
      · exact h
      · exact absurd (Or.inr h) hgo
    have ho : tlO s n = scO s n := by unfold tlO; rw [if_neg hgo, if_pos hkd]
    obtain ⟨c1, c2, c3, c4, c5, c6, c7⟩ := scan_leaf s n (K.zip V) (lo p) (keys_asc hK) hP.kl hP.k12 (by rw [hkey]; exact hP.zip) w1 w2 hlo hhi (hS.leaf hlv) hr.2.2.2.1
    have hbs : ∀ hi, s.val + 1 < hi + 1 → scB s n < hi → keysOk hi (key + 1) (s.bel ++ [scB s n]) = true := by
      intro hi h1 h2
      refine keysOk_snoc2 _ _ _ _ (keysOk_mono _ _ _ _ hP.bel (by omega)) ?_ h2
      have := c3
      rw [wantV_0 hP.ent.1] at this
      cases hl : s.bel.getLast? with
      | none => rw [hl] at this; simp at this ⊢; omega
      | some x => rw [hl] at this; simp at this ⊢; omega
    have hps : keysOk ((j + 1 : Nat) : Int) 0 (s.pts ++ [s.step]) = true := by
      refine keysOk_snoc2 _ _ _ _ (keysOk_mono _ _ _ _ hP.pts (by omega)) ?_ (by omega)
      cases hl : s.pts.getLast? with
      | none => simp; omega
      | some x =>
        have := keysOk_all _ _ _ hP.pts x (List.mem_of_getLast? hl)
        simp; omega
    cases he : scEnd s n with
    | false =>
      obtain ⟨d1, d2, d3⟩ := c6 he
      obtain ⟨q, m, a1, a2, -, a4, a5⟩ := hS.link (by omega)
      have ho2 : scO s n = .on { scS s n with pg := n.lk, step := s.step + 1 } := by unfold scO; rw [he]; rfl
      have hw' : wantV { scS s n with pg := n.lk, step := s.step + 1 } = scB s n := by
        refine (wantV_0 (s := { scS s n with pg := n.lk, step := s.step + 1 }) hP.ent.1).trans ?_
        show (s.bel ++ [scB s n]).getLast?.getD s.key = scB s n
        rw [List.getLast?_concat]; rfl
      have hP' : ScP p0 K V rk lo key val (j + 1) { scS s n with pg := n.lk, step := s.step + 1 } := by
        refine ⟨hkd, hkey, hval, ?_, ⟨q, a1, a2.2.1, by rw [hw', a4, d1]; exact Int.le_refl _, by omega⟩, c1, d3, by rw [hw', ← hkey]; exact c2, ?_, ?_, ?_, hbs _ (by omega) (by omega), hps, hP.sw, hP.sp, hP.ent⟩
        · show s.step + 1 = _; omega
        · intro x hx
          rcases adV_mem _ _ _ _ _ _ _ (by omega) x hx with h | h
          · exact hP.vals x h
          · have := hr.2.2.2.2.2.2.2 x h
            rw [hlv] at this
            have h4 : (10 : Nat) ^ vw 0 = 10000 := rfl
            rw [h4] at this
            omega
        · show (s.bel ++ [scB s n]).length = (s.pts ++ [s.step]).length
          rw [List.length_append, List.length_append, hP.bl]; rfl
        · show (s.bel ++ [scB s n]).length ≤ j + 1
          rw [List.length_append]; simp; omega
      refine ⟨⟨hT3.1, hT3.2.1, hT3.2.2, fun s' e => ?_⟩, Or.inl ⟨_, ho.trans ho2, hP'⟩⟩
      rw [ho, ho2] at e
      cases e
      have := hP'.ok hK h64 hk1 hk2 hk3
      exact ⟨this.pg.1, this.i⟩
    | true =>
      have ho2 : scO s n = .fin (decide (0 < (scK s n).length)) (scK s n).length s.step (scK s n) (scV s n) ((scS s n).bel.zip (scS s n).pts) := by unfold scO; rw [he]; rfl
      refine ⟨⟨hT3.1, hT3.2.1, hT3.2.2, fun s' e => ?_⟩, Or.inr ⟨_, _, _, _, _, _, ho.trans ho2, ⟨_, _, _, _, s.bel ++ [scB s n], s.pts ++ [s.step], scB s n, rfl, rfl, by omega, ?_, ?_, List.getLast?_concat, List.getLast?_concat, c1, by rw [← hkey]; exact c2, hbs _ (by omega) (by omega), hps, c5, by rw [← hval]; exact c7 he⟩⟩⟩
      · rw [ho, ho2] at e; cases e
      · rw [List.length_append, List.length_append, hP.bl]; rfl
      · rw [List.length_append]; simp; omega

def seenV (K bel : List Int) (key : Int) (i : Nat) : Nat := cntW K key (fromV bel key i) K.length
def lastV (now0 : Int) (pts : List Int) : Nat → Int
  | 0 => -1
  | i + 1 => now0 + pts[i]?.getD 0
/-- When an operation's first j accesses took place. -/
def tsq (now0 : Int) (j : Nat) : List Int := (List.range j).map fun (i : Nat) => now0 + (i : Int)
theorem tsq_succ (now0 : Int) (j : Nat) : tsq now0 (j + 1) = tsq now0 j ++ [now0 + j] := by simp [tsq, List.range_succ]
theorem tsq_len (now0 : Int) (j : Nat) : (tsq now0 j).length = j := by simp [tsq]
theorem tsq_at (now0 : Int) (j i : Nat) (h : i < j) : (tsq now0 j)[i]?.getD 0 = now0 + i := by simp [tsq, h]

theorem cntW_zip (K V : List Int) (a b : Int) (h : K.length = V.length) : cntW K a b K.length = ((K.zip V).filter (rng a b)).length := by
  unfold cntW
  rw [List.take_length]
  have : K = (K.zip V).map Prod.fst := (List.map_fst_zip (by omega)).symm
  conv => lhs; rw [this]
  rw [List.filter_map, List.length_map]
  rfl

/-- The j-th of a rising list of which each is at least the one ahead of it and one. -/
theorem keysOk_lt2 (hi l : Int) (ks : List Int) (h : keysOk hi l ks = true) (i j : Nat) (hij : i < j) (hj : j < ks.length) : ks[i]?.getD 0 < ks[j]?.getD 0 := by
  have := List.pairwise_iff_getElem.1 (keysOk_pair _ _ _ h) i j (by omega) hj hij
  simpa [List.getElem?_eq_getElem (show i < ks.length by omega), List.getElem?_eq_getElem hj] using this

/-- What is to be shown of each piece. -/
structure PieceR (K V ks vs : List Int) (key val now0 : Int) (bel pts : List Int) (j i : Nat) (p : Nat) (below : Int) (k : Nat) : Prop where
  pt : pts[i]? = some (p : Int)
  pj : p < j
  be : bel[i]? = some below
  last : lastV now0 pts i < now0 + (p : Int)
  lo : fromV bel key i < below
  hi : below ≤ val + 1
  cnt : cntW K (fromV bel key i) below K.length = k
  nx : seenV K bel key i + k = seenV K bel key (i + 1)
  le : seenV K bel key (i + 1) ≤ ks.length
  keys : ∀ m, m < k → fromV bel key i ≤ ks[seenV K bel key i + m]?.getD 0 ∧ ks[seenV K bel key i + m]?.getD 0 < below ∧ ∀ fd v, ValR K V (ks[seenV K bel key i + m]?.getD 0) fd v → fd = true ∧ v = vs[seenV K bel key i + m]?.getD 0
theorem piece_at (K V ks vs : List Int) (key val now0 b : Int) (bel pts : List Int) (j i : Nat) (hK : keysOk 10000 1 K = true) (hKV : K.length = V.length) (hks : ks.length = vs.length) (hz : ks.zip vs = (K.zip V).filter (rng key b)) (hbp : bel.length = pts.length) (hb : bel.getLast? = some b)
    (hbel : keysOk (val + 2) (key + 1) bel = true) (hpts : keysOk (j : Int) 0 pts = true) (hn0 : 0 ≤ now0) (hi : i < bel.length) : ∃ p below k, PieceR K V ks vs key val now0 bel pts j i p below k := by
  have hip : i < pts.length := by omega
  have hpm := keysOk_all _ _ _ hpts pts[i] (List.getElem_mem hip)
  have hbm := keysOk_all _ _ _ hbel bel[i] (List.getElem_mem hi)
  have hbe : bel[i]? = some bel[i] := List.getElem?_eq_getElem hi
  obtain ⟨be, hbeq⟩ : ∃ x, bel[i] = x := ⟨_, rfl⟩
  rw [hbeq] at hbe hbm
  have hfr : key ≤ fromV bel key i ∧ fromV bel key i < be := by
    cases i with
    | zero => simp only [fromV]; omega
    | succ i =>
      simp only [fromV]
      have h1 := keysOk_lt2 _ _ _ hbel i (i + 1) (by omega) hi
      rw [hbe] at h1
      have h2 := keysOk_all _ _ _ hbel bel[i] (List.getElem_mem (by omega))
      rw [List.getElem?_eq_getElem (show i < bel.length by omega)] at h1 ⊢
      simp only [Option.getD_some] at h1 ⊢
      omega
  have hbb : be ≤ b := by
    rw [List.getLast?_eq_getElem?] at hb
    rcases Nat.lt_or_ge i (bel.length - 1) with h | h
    · have := keysOk_lt2 _ _ _ hbel i (bel.length - 1) h (by omega)
      rw [hb, hbe] at this
      simp only [Option.getD_some] at this
      omega
    · have : i = bel.length - 1 := by omega
      rw [← this, hbe] at hb
      cases hb; exact Int.le_refl _
  have hA : Asc (K.zip V) := keys_asc hK
  have s1 := filter_split hA hfr.1 (Int.le_of_lt hfr.2)
  have s2 := filter_split hA (show key ≤ be by omega) hbb
  have hns : fromV bel key (i + 1) = be := by simp only [fromV]; rw [hbe]; rfl
  refine ⟨pts[i].toNat, be, _, ?_, by omega, hbe, ?_, hfr.2, by omega, rfl, ?_, ?_, ?_⟩
  · rw [List.getElem?_eq_getElem hip]; congr 1; omega
  · cases i with
    | zero => simp only [lastV]; omega
    | succ i =>
      simp only [lastV]
      have h1 := keysOk_lt2 _ _ _ hpts i (i + 1) (by omega) hip
      rw [List.getElem?_eq_getElem hip] at h1
      simp only [Option.getD_some] at h1
      omega
  · unfold seenV
    rw [hns, cntW_zip K V _ _ hKV, cntW_zip K V _ _ hKV, cntW_zip K V _ _ hKV, ← s1, List.length_append]
  · unfold seenV
    rw [hns, cntW_zip K V _ _ hKV]
    have : (ks.zip vs).length = ks.length := by rw [List.length_zip]; omega
    rw [← this, hz, ← s2, List.length_append]; omega
  · intro m hm
    unfold seenV
    rw [cntW_zip K V _ _ hKV] at hm ⊢
    obtain ⟨y, hy⟩ : ∃ y, ((K.zip V).filter (rng (fromV bel key i) be))[m]? = some y := ⟨_, List.getElem?_eq_getElem hm⟩
    have hyz : (ks.zip vs)[((K.zip V).filter (rng key (fromV bel key i))).length + m]? = some y := by
      rw [hz, ← s2, ← s1, List.append_assoc, List.getElem?_append_right (by omega), Nat.add_sub_cancel_left, List.getElem?_append_left hm]
      exact hy
    rw [List.getElem?_zip_eq_some] at hyz
    have hyf := List.mem_filter.1 (List.mem_of_getElem? hy)
    have hyr := hyf.2
    simp only [rng, Bool.and_eq_true, decide_eq_true_eq] at hyr
    rw [hyz.1, hyz.2]
    simp only [Option.getD_some]
    refine ⟨hyr.1, hyr.2, fun fd v hV => ?_⟩
    obtain ⟨q, hq⟩ := List.mem_iff_getElem?.1 hyf.1
    rw [List.getElem?_zip_eq_some] at hq
    rcases hV with ⟨-, -, hno⟩ | ⟨q', h1, h2, h3, -⟩
    · exact absurd (List.mem_of_getElem? hq.1) hno
    · refine ⟨h1, ?_⟩
      have hl1 := (List.getElem?_eq_some_iff.1 hq.1).1
      have hl2 := (List.getElem?_eq_some_iff.1 h2).1
      have : q = q' := by
        rcases Nat.lt_trichotomy q q' with h | h | h
        · have := keysOk_lt2 _ _ _ hK q q' h hl2
          rw [hq.1, h2] at this; simp at this
        · exact h
        · have := keysOk_lt2 _ _ _ hK q' q h hl1
          rw [hq.1, h2] at this; simp at this
      subst this
      rw [hq.2] at h3
      exact (Option.some.inj h3).symm
theorem ks_rise {K V ks vs : List Int} {a b : Int} (hK : keysOk 10000 1 K = true) (hks : ks.length = vs.length) (hz : ks.zip vs = (K.zip V).filter (rng a b)) (i : Nat) (hi : i + 1 < ks.length) : ks[i]?.getD 0 < ks[i + 1]?.getD 0 := by
  have hA : Asc (ks.zip vs) := hz ▸ asc_filter _ (keys_asc hK)
  have hl : (ks.zip vs).length = ks.length := by rw [List.length_zip]; omega
  have := List.pairwise_iff_getElem.1 hA i (i + 1) (by omega) (by omega) (by omega)
  rw [List.getElem?_eq_getElem (by omega), List.getElem?_eq_getElem hi]
  simpa using this
theorem seen_end {K V ks vs : List Int} {key b : Int} {bel : List Int} (hKV : K.length = V.length) (hks : ks.length = vs.length) (hz : ks.zip vs = (K.zip V).filter (rng key b)) (hb : bel.getLast? = some b) : fromV bel key bel.length = b ∧ seenV K bel key bel.length = ks.length := by
  have h1 : fromV bel key bel.length = b := by
    cases hl : bel.length with
    | zero => rw [List.eq_nil_of_length_eq_zero hl] at hb; cases hb
    | succ n =>
      simp only [fromV]
      rw [List.getLast?_eq_getElem?, hl, Nat.add_sub_cancel] at hb
      rw [hb]; rfl
  refine ⟨h1, ?_⟩
  unfold seenV
  rw [h1, cntW_zip K V _ _ hKV, ← hz, List.length_zip]
  omega
theorem seen_0 (K bel : List Int) (key : Int) : seenV K bel key 0 = 0 := by
  unfold seenV cntW
  simp only [fromV]
  rw [List.length_eq_zero_iff]
  refine List.filter_eq_nil_iff.2 fun x _ => ?_
  intro h
  rw [Bool.and_eq_true] at h
  have h1 := of_decide_eq_true h.1
  have h2 : x < key := of_decide_eq_true h.2
  omega
end Go.Proofs.YtajobgmnmbnhiaaDoor.Sap

/- WHAT IS PROVED HERE: what tree.scanLeaf answers. Conditions: named at the theorem. -/
namespace Go.Proofs.YtajobgmnmbnhiaaDoor.Sap
open Go.RowKit

theorem M.scIn {w0 w : World} {B : Nat} {x y s k v : As} {fr : List As} (h : M w0 B w (x :: y :: s :: k :: v :: fr)) : M w0 B w (s :: k :: v :: x :: y :: fr) :=
  h.perm (List.Perm.append_right (l₁ := [s, k, v] ++ [x, y]) (l₂ := [x, y] ++ [s, k, v]) fr List.perm_append_comm)
theorem M.scOut {w0 w : World} {B : Nat} {c s k v x y b p a d : As} {fr : List As} (h : M w0 B w (c :: s :: k :: v :: x :: y :: b :: p :: a :: d :: fr)) : M w0 B w (k :: v :: c :: fr) := by
  have h1 : M w0 B w ([c] ++ ([k, v] ++ fr)) := h.sub (.cons_cons _ (.cons _ (.cons_cons _ (.cons_cons _ (.cons _ (.cons _ (.cons _ (.cons _ (.cons _ (.cons _ (List.Sublist.refl _)))))))))))
  exact h1.perm (l' := ([k, v] ++ [c]) ++ fr) (by rw [← List.append_assoc]; exact List.Perm.append_right _ List.perm_append_comm)
theorem M.scOn {w0 w : World} {B : Nat} {s k v x y b p a d : As} {fr : List As} (h : M w0 B w (s :: k :: v :: x :: y :: b :: p :: a :: d :: fr)) : M w0 B w fr :=
  h.sub (.cons _ (.cons _ (.cons _ (.cons _ (.cons _ (.cons _ (.cons _ (.cons _ (.cons _ (List.Sublist.refl _))))))))))

/-- What scanLeaf answers. -/
def ScR (o : Out) (w0 : World) (B : Nat) (w' : World) (fr : List As) (e : Ending) : Prop :=
  match o with
  | .inl s' => OnR s' e ∧ M w0 B w' fr
  | .inr (fd, va, pt, ks, vs, cs) => ∃ kv' vv' cv', e = .returned (.tuple #[.string ⟨#[]⟩, .agg #[.int .i64 0, .bool fd, .int .i64 va, .int .i64 pt, kv', vv', cv'], .bool true, .int .i64 0]) ∧ M w0 B w' (.row 3 1 kv' ks.length (ints ks) :: .row 3 1 vv' vs.length (ints vs) :: .row 142 2 cv' cs.length (cutc cs) :: fr)

set_option maxRecDepth 100000 in
set_option maxHeartbeats 6400000 in
theorem scanLeaf_any (s : St) (n : Nd) (kv vv bv pv ka va : Value) (ax ay : Option Addr) (cx cy : Nat) (hsp : s.sp = []) (hsv : s.sv = []) (fr : List As) (w0 w : World) (B : Nat) (htab : Tab w0) (hB : B = w0.heap.size) (hI : StI s) (hkl : s.keys.length = s.vals.length) (hbl : s.bel.length = s.pts.length) (hb63 : s.bel.length ≤ 63) (hs0 : 0 ≤ s.step) (hs1 : s.step ≤ 1000000000) (hv0 : 0 ≤ s.val) (hv1 : s.val ≤ 10000) (_hh1 : 1 ≤ n.hi) (_hh2 : n.hi ≤ 10000)
    (h : M w0 B w (.row 3 1 kv s.keys.length (ints s.keys) :: .row 3 1 vv s.keys.length (ints s.vals) :: .row 3 1 bv s.bel.length (ints s.bel) :: .row 3 1 pv s.pts.length (ints s.pts) :: .row 3 1 ka n.ks.length (ints n.ks) :: .row 3 1 va n.vs.length (ints n.vs) :: fr))
    (hn : n.ks.length = n.vs.length) (h6 : n.ks.length ≤ 6) (hkr : ∀ x ∈ n.ks, 0 ≤ x ∧ x ≤ 10000) (hsk : ∀ x ∈ s.keys, 0 ≤ x ∧ x ≤ 10000) (hlk : scEnd s n = false → 0 ≤ n.lk ∧ StI { scS s n with pg := n.lk, step := s.step + 1 }) :
    Calls Tryd.prog 106 #[.agg #[.int .i64 s.kd, .int .i64 s.key, .int .i64 s.val, .int .i64 s.step, .int .i64 s.pg, kv, vv, bv, pv, .string s.sw, .int .i64 s.ver, .slice ax 0 cx, .slice ay 0 cy, .int .i64 s.laid, .int .i64 s.lv, .int .i64 s.low, .int .i64 s.ch, .int .i64 s.pt], .agg #[.int .i64 n.lv, .int .i64 n.lk, .int .i64 n.hi, ka, va]] w fun e w' => ScR (scO s n) w0 B w' fr e := by
  obtain ⟨i0, hi0, hz0, hz1, hz2⟩ := info_parts infoInt
  obtain ⟨ak, ck, rfl⟩ := As.form0 (h.get (i := 0) rfl)
  obtain ⟨av, cv, rfl⟩ := As.form0 (h.get (i := 1) rfl)
  obtain ⟨ab, cb, rfl⟩ := As.form0 (h.get (i := 2) rfl)
  obtain ⟨ap, cp, rfl⟩ := As.form0 (h.get (i := 3) rfl)
  obtain ⟨na, nc, rfl⟩ := As.form0 (h.get (i := 4) rfl)
  obtain ⟨nva, nvc, rfl⟩ := As.form0 (h.get (i := 5) rfl)
  have A0 := ((h.alloc #[.int .i64 s.kd, .int .i64 s.key, .int .i64 s.val, .int .i64 s.step, .int .i64 s.pg, .slice ak s.keys.length ck, .slice av s.keys.length cv, .slice ab s.bel.length cb, .slice ap s.pts.length cp, .string s.sw, .int .i64 s.ver, .slice ax 0 cx, .slice ay 0 cy, .int .i64 s.laid, .int .i64 s.lv, .int .i64 s.low, .int .i64 s.ch, .int .i64 s.pt] 98).alloc #[.int .i64 n.lv, .int .i64 n.lk, .int .i64 n.hi, .slice na n.ks.length nc, .slice nva n.vs.length nvc] 24).alloc #[.int .i64 0, .bool false, .int .i64 0, .int .i64 0, .slice none 0 0, .slice none 0 0, .slice none 0 0] 76
  rw [alloc_size, alloc_size] at A0
  have A1 := A0.scIn
  have CA := hideIt (addKeys_any w.heap.size s n _ _ (.slice ab s.bel.length cb) (.slice ap s.pts.length cp) (.slice na n.ks.length nc) (.slice nva n.vs.length nvc) ax ay cx cy hsp hsv _ w0 _ B hI hkl A1 (.tail _ (.tail _ (.head _))) (.tail _ (.tail _ (.tail _ (.head _)))) (.tail _ (.tail _ (.tail _ (.tail _ (.head _))))) (.tail _ (.tail _ (.tail _ (.tail _ (.tail _ (.head _)))))) hn h6)
  have c := fun j v hv => A0.cell (i := 1) rfl j v hv
  have n0 := c 0 (.int .i64 n.lv) rfl
  have n1 := c 1 (.int .i64 n.lk) rfl
  have n2 := c 2 (.int .i64 n.hi) rfl
  have n3 := c 3 (.slice na n.ks.length nc) rfl
  have n4 := c 4 (.slice nva n.vs.length nvc) rfl
  have HT : Hid (∀ W l, M w0 B W l → Tab W) := fun W l hm => htab.below (hB ▸ hm.bl)
  have hkL := hI.keysL
  have HLK := hideIt hlk
  have HBL := hideIt hbl
  have hb63' : s.pts.length ≤ 63 := by omega
  have HSK : Hid (∀ x ∈ scK s n, 0 ≤ x ∧ x ≤ 10000) := by
    unfold Hid scK
    have : ∀ k, ∀ x ∈ adK n.ks (wantV s) s.val s.keys k, 0 ≤ x ∧ x ≤ 10000 := by
      intro k
      induction k with
      | zero => exact hsk
      | succ k ih =>
        intro x hx
        unfold adK at hx
        split at hx
        · rcases List.mem_append.1 hx with hx | hx
          · exact ih x hx
          · rw [List.mem_singleton] at hx
            subst hx
            rcases Nat.lt_or_ge k n.ks.length with hk | hk
            · rw [List.getElem?_eq_getElem hk]; exact hkr _ (List.getElem_mem _)
            · rw [List.getElem?_eq_none hk]; simp
        · exact ih x hx
    exact this _
  clear A0 A1 c h hI hkl hlk htab hB hbl hkr hsk hn h6
  go_enter Tryd.func106, Tryd.ntmps106
  go_wp2_with fail
  refine CA.out.mono ?_
  rintro e w1 ⟨⟨u, rfl⟩, kv', vv', l, hl1, hl2, hM1⟩
  obtain ⟨gs, hgs⟩ : ∃ g, w.heap.size = g := ⟨_, rfl⟩
  rw [hgs] at hM1 ⊢
  obtain ⟨gx, hgx⟩ : ∃ g, gs + 1 + 1 = g := ⟨_, rfl⟩
  obtain ⟨gn, hgn⟩ : ∃ g, gs + 1 = g := ⟨_, rfl⟩
  rw [hgx, hgn] at hM1
  rw [hgx, hgn]
  have HK : Hid (adK n.ks (wantV s) s.val s.keys n.ks.length = scK s n ∧ adV n.ks n.vs (wantV s) s.val s.keys s.vals n.ks.length = scV s n) := ⟨rfl, rfl⟩
  rw [HK.out.1] at hl1 hM1
  rw [HK.out.2] at hl2 hM1
  have hl12 : l ≤ 12 := by rw [← hl1]; exact adK_len _ _ _ _ _ hkL
  have HL1 := hideIt hl1
  have HL2 := hideIt hl2
  clear CA HK n0 n1 n2 n3 n4 hl1 hl2 hgs hgx hgn
  obtain ⟨ka2, kc2, rfl⟩ := As.form0 (hM1.get (i := 1) rfl)
  obtain ⟨va2, vc2, rfl⟩ := As.form0 (hM1.get (i := 2) rfl)
  have HM := hideIt hM1
  clear hM1
  have s2 := HM.out.cell (i := 0) rfl 2 (.int .i64 s.val) rfl
  have n2 := HM.out.cell (i := 4) rfl 2 (.int .i64 n.hi) rfl
  have k5 := HM.out.cell (i := 0) rfl 5 (.slice ka2 l kc2) rfl
  by_cases hf : 12 ≤ l
  · obtain rfl : l = 12 := by omega
    have hE : scEnd s n = true := by unfold scEnd; rw [HL1.out]; rfl
    have HE := hideIt hE
    have h1 : As.holds w1 B (.row 3 1 (.slice ka2 12 kc2) (12) (ints (scK s n))) := HM.out.get (i := 1) rfl
    have rk : Rd w1 (.slice ka2 12 kc2) (scK s n) := by rw [← HL1.out] at h1 ⊢; exact owns_rd h1
    obtain ⟨b1, o1, rfl, -, x1⟩ := rk.elem 11 (by omega)
    have y1 := x1 _ (Below.refl _ _)
    obtain ⟨z, hz⟩ : ∃ y, (scK s n)[11]?.getD 0 = y := ⟨_, rfl⟩
    rw [hz] at y1
    have hzb := HSK.out z (by rw [← hz, List.getElem?_eq_getElem (by rw [HL1.out]; omega)]; exact List.getElem_mem _)
    obtain ⟨hzb1, hzb2⟩ := hzb
    have HBB : Hid (scB s n = z + 1) := by
      unfold Hid scB
      rw [if_pos (by rw [HL1.out]; omega), List.getLast?_eq_getElem?, HL1.out]
      rw [show 12 - 1 = 11 from rfl, hz]
    clear h1 rk x1 hz hE hf HLK
    by_cases hh : s.val + 1 < n.hi
    · skip
      go_upto_region 9 with fail
      go_cut [] (fun wy => ∃ g1 cap1, Hid (M w0 B wy (.blk gs #[.int .i64 s.kd, .int .i64 s.key, .int .i64 s.val, .int .i64 s.step, .int .i64 s.pg, .slice (some ⟨b1, o1, none⟩) 12 kc2, .slice va2 12 vc2, .slice (some ⟨g1, 0, none⟩) (s.bel.length + 1) cap1, .slice ap s.pts.length cp, .string s.sw, .int .i64 s.ver, .slice ax 0 cx, .slice ay 0 cy, .int .i64 s.laid, .int .i64 s.lv, .int .i64 s.low, .int .i64 s.ch, .int .i64 s.pt] 98 :: .row 3 1 (.slice (some ⟨b1, o1, none⟩) 12 kc2) (12) (ints (scK s n)) :: .row 3 1 (.slice va2 12 vc2) (12) (ints (scV s n)) :: .blk gx #[.int .i64 0, .bool false, .int .i64 0, .int .i64 0, .slice none 0 0, .slice none 0 0, .slice none 0 0] 76 :: .blk gn #[.int .i64 n.lv, .int .i64 n.lk, .int .i64 n.hi, .slice na n.ks.length nc, .slice nva n.vs.length nvc] 24 :: .row 3 1 (.slice (some ⟨g1, 0, none⟩) (s.bel.length + 1) cap1) (s.bel.length + 1) (ints (s.bel ++ [z + 1])) :: .row 3 1 (.slice ap s.pts.length cp) (s.pts.length) (ints (s.pts)) :: .row 3 1 (.slice na n.ks.length nc) (n.ks.length) (ints (n.ks)) :: .row 3 1 (.slice nva n.vs.length nvc) (n.vs.length) (ints (n.vs)) :: fr)))
      case first =>
        have s7 := HM.out.cell (i := 0) rfl 7 (.slice ab s.bel.length cb) rfl
        have hl9 := HM.out.lt (i := 0) rfl
        go_wp2_with (at_builtin; refine wpList_append_lies _ rfl _ _ 22 rfl B 3 i0 (.int .i64 0) 1 8 Tryd.underlying22 hi0 hz0 hz1 hz2 rfl (by decide) _ (s.bel.length) (ints (s.bel)) rfl (World.ownsRow.alloc (HM.out.get (i := 5) rfl) _) ⟨_, 0, none⟩ 1 1 [.int .i64 (z + 1)] rfl rfl (news_one _ _ _) (by simp [Value.oneCell']) (by omega) (by unfold maxLen; omega) (by omega) (by have := HM.out.sz; simp at this ⊢; omega) _ rfl ?_; intro gq capq w5 hown hgrow hat hlt1; rw [← ints_snoc] at hown; have hm := (HM.out.allocd _).lies (i := 5) rfl hown hgrow hat; clear hown hgrow hat; have z7 := hm.cell (i := 0) rfl 7 (.slice ab s.bel.length cb) rfl; have y7 := hm.free (i := 0) rfl 7; have hlg := hm.lt (i := 0) rfl; have H1 := hideIt (hm.store (i := 0) (j := 7) rfl (.slice (some ⟨gq, 0, none⟩) (s.bel.length + 1) capq) rfl); clear hm)
        go_wp2
        go_meet
        case rel => exact ⟨_, _, H1.out⟩
      case rest =>
        obtain ⟨g1, cap1, hM2⟩ := hcut
        clear HM s2 n2 k5 y1
        go_upto_region 10 with fail
        go_cut [] (fun wy => ∃ g2 cap2, Hid (M w0 B wy (.blk gs #[.int .i64 s.kd, .int .i64 s.key, .int .i64 s.val, .int .i64 s.step, .int .i64 s.pg, .slice (some ⟨b1, o1, none⟩) 12 kc2, .slice va2 12 vc2, .slice (some ⟨g1, 0, none⟩) (s.bel.length + 1) cap1, .slice (some ⟨g2, 0, none⟩) (s.pts.length + 1) cap2, .string s.sw, .int .i64 s.ver, .slice ax 0 cx, .slice ay 0 cy, .int .i64 s.laid, .int .i64 s.lv, .int .i64 s.low, .int .i64 s.ch, .int .i64 s.pt] 98 :: .row 3 1 (.slice (some ⟨b1, o1, none⟩) 12 kc2) (12) (ints (scK s n)) :: .row 3 1 (.slice va2 12 vc2) (12) (ints (scV s n)) :: .blk gx #[.int .i64 0, .bool false, .int .i64 0, .int .i64 0, .slice none 0 0, .slice none 0 0, .slice none 0 0] 76 :: .blk gn #[.int .i64 n.lv, .int .i64 n.lk, .int .i64 n.hi, .slice na n.ks.length nc, .slice nva n.vs.length nvc] 24 :: .row 3 1 (.slice (some ⟨g1, 0, none⟩) (s.bel.length + 1) cap1) (s.bel.length + 1) (ints (s.bel ++ [z + 1])) :: .row 3 1 (.slice (some ⟨g2, 0, none⟩) (s.pts.length + 1) cap2) (s.pts.length + 1) (ints (s.pts ++ [s.step])) :: .row 3 1 (.slice na n.ks.length nc) (n.ks.length) (ints (n.ks)) :: .row 3 1 (.slice nva n.vs.length nvc) (n.vs.length) (ints (n.vs)) :: fr)))
        case first =>
          have s8 := hM2.out.cell (i := 0) rfl 8 (.slice ap s.pts.length cp) rfl
          have s3 := hM2.out.cell (i := 0) rfl 3 (.int .i64 s.step) rfl
          have hl9 := hM2.out.lt (i := 0) rfl
          go_wp2_with (at_builtin; refine wpList_append_lies _ rfl _ _ 22 rfl B 3 i0 (.int .i64 0) 1 8 Tryd.underlying22 hi0 hz0 hz1 hz2 rfl (by decide) _ (s.pts.length) (ints (s.pts)) rfl (World.ownsRow.alloc (hM2.out.get (i := 6) rfl) _) ⟨_, 0, none⟩ 1 1 [.int .i64 s.step] rfl rfl (news_one _ _ _) (by simp [Value.oneCell']) (by omega) (by unfold maxLen; omega) (by omega) (by have := hM2.out.sz; simp at this ⊢; omega) _ rfl ?_; intro gq capq w5 hown hgrow hat hlt1; rw [← ints_snoc] at hown; have hm := (hM2.out.allocd _).lies (i := 6) rfl hown hgrow hat; clear hown hgrow hat; have z7 := hm.cell (i := 0) rfl 8 (.slice ap s.pts.length cp) rfl; have y7 := hm.free (i := 0) rfl 8; have hlg := hm.lt (i := 0) rfl; have H1 := hideIt (hm.store (i := 0) (j := 8) rfl (.slice (some ⟨gq, 0, none⟩) (s.pts.length + 1) capq) rfl); clear hm)
          go_wp2
          go_meet
          case rel => exact ⟨_, _, H1.out⟩
        case rest =>
          obtain ⟨g2, cap2, hM3⟩ := hcut
          clear hM2
          have SV : StV wc (scS s n) (.slice (some ⟨b1, o1, none⟩) 12 kc2) (.slice va2 12 vc2) (.slice (some ⟨g1, 0, none⟩) (s.bel.length + 1) cap1) (.slice (some ⟨g2, 0, none⟩) (s.pts.length + 1) cap2) (.slice ax 0 cx) (.slice ay 0 cy) := by
            refine ⟨?_, ?_, ?_, ?_, rd0 hsp, rd0 hsv⟩
            · have h1 : As.holds wc B (.row 3 1 (.slice (some ⟨b1, o1, none⟩) 12 kc2) (12) (ints (scK s n))) := hM3.out.get (i := 1) rfl
              show Rd wc _ (scK s n)
              rw [← HL1.out] at h1 ⊢; exact owns_rd h1
            · have h1 : As.holds wc B (.row 3 1 (.slice va2 12 vc2) (12) (ints (scV s n))) := hM3.out.get (i := 2) rfl
              show Rd wc _ (scV s n)
              rw [← HL2.out] at h1 ⊢; exact owns_rd h1
            · have h1 : As.holds wc B (.row 3 1 (.slice (some ⟨g1, 0, none⟩) (s.bel.length + 1) cap1) (s.bel.length + 1) (ints (s.bel ++ [z + 1]))) := hM3.out.get (i := 5) rfl
              show Rd wc _ (s.bel ++ [scB s n])
              rw [HBB.out]
              rw [show s.bel.length + 1 = (s.bel ++ [z + 1]).length by simp] at h1 ⊢; exact owns_rd h1
            · have h1 : As.holds wc B (.row 3 1 (.slice (some ⟨g2, 0, none⟩) (s.pts.length + 1) cap2) (s.pts.length + 1) (ints (s.pts ++ [s.step]))) := hM3.out.get (i := 6) rfl
              show Rd wc _ (s.pts ++ [s.step])
              rw [show s.pts.length + 1 = (s.pts ++ [s.step]).length by simp] at h1 ⊢; exact owns_rd h1
          have hzl : ((scS s n).bel.zip (scS s n).pts).length = (scS s n).bel.length := by
            have := HBL.out
            simp [scS, List.length_zip]; omega
          have CS := scanned_any (scS s n) _ _ _ _ _ _ wc SV (by have := HBL.out; simp [scS]; omega) (by simp [scS]; omega)
          obtain ⟨cl, hcl⟩ : ∃ x, ((scS s n).bel.zip (scS s n).pts).length = x := ⟨_, rfl⟩
          rw [← hzl, hcl] at CS
          have HCL := hideIt hcl
          obtain ⟨fdv, hfdv⟩ : ∃ x, decide (0 < (scS s n).keys.length) = x := ⟨_, rfl⟩
          obtain ⟨lnv, hlnv⟩ : ∃ x, ((scS s n).keys.length : Int) = x := ⟨_, rfl⟩
          rw [hfdv, hlnv, show (scS s n).step = s.step from rfl] at CS
          have HCS := hideIt CS
          have HFD := hideIt hfdv
          have HLN := hideIt hlnv
          have HSO : Hid (scO s n = .fin (decide (0 < (scK s n).length)) (scK s n).length s.step (scK s n) (scV s n) ((scS s n).bel.zip (scS s n).pts)) := by unfold Hid scO; rw [HE.out]; rfl
          clear CS hfdv hlnv hzl SV hcl
          go_wp2_with (refine wpList_load_row rfl 98 _ rfl _ rfl 98 _ (0, 0) _ (hM3.out.block (i := 0) rfl) Tryd.underlying98 rfl infoState ?_)
          refine HCS.out.mono ?_
          rintro e w5 ⟨cv5, rfl, hC⟩
          obtain ⟨ca5, cc5, rfl⟩ := As.form0 (hC.get (i := 0) rfl)
          have hM5 := hideIt (hM3.out.join hC)
          clear hC hM3 HCS
          have r0 := hM5.out.cell (i := 4) rfl 0 (.int .i64 0) rfl
          have f0 := hM5.out.free (i := 4) rfl 0
          have r1 := hM5.out.cell (i := 4) rfl 1 (.bool false) rfl
          have f1 := hM5.out.free (i := 4) rfl 1
          have r2 := hM5.out.cell (i := 4) rfl 2 (.int .i64 0) rfl
          have f2 := hM5.out.free (i := 4) rfl 2
          have r3 := hM5.out.cell (i := 4) rfl 3 (.int .i64 0) rfl
          have f3 := hM5.out.free (i := 4) rfl 3
          have r4 := hM5.out.cell (i := 4) rfl 4 (.slice none 0 0) rfl
          have f4 := hM5.out.free (i := 4) rfl 4
          have r5 := hM5.out.cell (i := 4) rfl 5 (.slice none 0 0) rfl
          have f5 := hM5.out.free (i := 4) rfl 5
          have r6 := hM5.out.cell (i := 4) rfl 6 (.slice none 0 0) rfl
          have f6 := hM5.out.free (i := 4) rfl 6
          have S7 := hideIt (hM5.out.store7 (i := 4) rfl (.int .i64 0) (.bool fdv) (.int .i64 lnv) (.int .i64 s.step) (.slice (some ⟨b1, o1, none⟩) 12 kc2) (.slice va2 12 vc2) (.slice ca5 cl cc5))
          clear hM5
          go_wp2
          refine bodyPost_ret (v := .tuple #[.string ⟨#[]⟩, .agg #[.int .i64 0, .bool fdv, .int .i64 lnv, .int .i64 s.step, .slice (some ⟨b1, o1, none⟩) 12 kc2, .slice va2 12 vc2, .slice ca5 cl cc5], .bool true, .int .i64 0]) (by simp [results, Tryd.results106, go_sem, *]) rfl ?_
          rw [HSO.out]
          have hF := S7.out.scOut
          refine ⟨_, _, _, by rw [← HFD.out, ← HLN.out]; rfl, ?_⟩
          rw [HL1.out, HL2.out, HCL.out]
          exact hF
    · have hh' : n.hi ≤ s.val + 1 := by omega
      clear hh
      go_upto_region 9 with fail
      go_cut [] (fun wy => ∃ g1 cap1, Hid (M w0 B wy (.blk gs #[.int .i64 s.kd, .int .i64 s.key, .int .i64 s.val, .int .i64 s.step, .int .i64 s.pg, .slice (some ⟨b1, o1, none⟩) 12 kc2, .slice va2 12 vc2, .slice (some ⟨g1, 0, none⟩) (s.bel.length + 1) cap1, .slice ap s.pts.length cp, .string s.sw, .int .i64 s.ver, .slice ax 0 cx, .slice ay 0 cy, .int .i64 s.laid, .int .i64 s.lv, .int .i64 s.low, .int .i64 s.ch, .int .i64 s.pt] 98 :: .row 3 1 (.slice (some ⟨b1, o1, none⟩) 12 kc2) (12) (ints (scK s n)) :: .row 3 1 (.slice va2 12 vc2) (12) (ints (scV s n)) :: .blk gx #[.int .i64 0, .bool false, .int .i64 0, .int .i64 0, .slice none 0 0, .slice none 0 0, .slice none 0 0] 76 :: .blk gn #[.int .i64 n.lv, .int .i64 n.lk, .int .i64 n.hi, .slice na n.ks.length nc, .slice nva n.vs.length nvc] 24 :: .row 3 1 (.slice (some ⟨g1, 0, none⟩) (s.bel.length + 1) cap1) (s.bel.length + 1) (ints (s.bel ++ [z + 1])) :: .row 3 1 (.slice ap s.pts.length cp) (s.pts.length) (ints (s.pts)) :: .row 3 1 (.slice na n.ks.length nc) (n.ks.length) (ints (n.ks)) :: .row 3 1 (.slice nva n.vs.length nvc) (n.vs.length) (ints (n.vs)) :: fr)))
      case first =>
        have s7 := HM.out.cell (i := 0) rfl 7 (.slice ab s.bel.length cb) rfl
        have hl9 := HM.out.lt (i := 0) rfl
        go_wp2_with (at_builtin; refine wpList_append_lies _ rfl _ _ 22 rfl B 3 i0 (.int .i64 0) 1 8 Tryd.underlying22 hi0 hz0 hz1 hz2 rfl (by decide) _ (s.bel.length) (ints (s.bel)) rfl (World.ownsRow.alloc (HM.out.get (i := 5) rfl) _) ⟨_, 0, none⟩ 1 1 [.int .i64 (z + 1)] rfl rfl (news_one _ _ _) (by simp [Value.oneCell']) (by omega) (by unfold maxLen; omega) (by omega) (by have := HM.out.sz; simp at this ⊢; omega) _ rfl ?_; intro gq capq w5 hown hgrow hat hlt1; rw [← ints_snoc] at hown; have hm := (HM.out.allocd _).lies (i := 5) rfl hown hgrow hat; clear hown hgrow hat; have z7 := hm.cell (i := 0) rfl 7 (.slice ab s.bel.length cb) rfl; have y7 := hm.free (i := 0) rfl 7; have hlg := hm.lt (i := 0) rfl; have H1 := hideIt (hm.store (i := 0) (j := 7) rfl (.slice (some ⟨gq, 0, none⟩) (s.bel.length + 1) capq) rfl); clear hm)
        go_wp2
        go_meet
        case rel => exact ⟨_, _, H1.out⟩
      case rest =>
        obtain ⟨g1, cap1, hM2⟩ := hcut
        clear HM s2 n2 k5 y1
        go_upto_region 10 with fail
        go_cut [] (fun wy => ∃ g2 cap2, Hid (M w0 B wy (.blk gs #[.int .i64 s.kd, .int .i64 s.key, .int .i64 s.val, .int .i64 s.step, .int .i64 s.pg, .slice (some ⟨b1, o1, none⟩) 12 kc2, .slice va2 12 vc2, .slice (some ⟨g1, 0, none⟩) (s.bel.length + 1) cap1, .slice (some ⟨g2, 0, none⟩) (s.pts.length + 1) cap2, .string s.sw, .int .i64 s.ver, .slice ax 0 cx, .slice ay 0 cy, .int .i64 s.laid, .int .i64 s.lv, .int .i64 s.low, .int .i64 s.ch, .int .i64 s.pt] 98 :: .row 3 1 (.slice (some ⟨b1, o1, none⟩) 12 kc2) (12) (ints (scK s n)) :: .row 3 1 (.slice va2 12 vc2) (12) (ints (scV s n)) :: .blk gx #[.int .i64 0, .bool false, .int .i64 0, .int .i64 0, .slice none 0 0, .slice none 0 0, .slice none 0 0] 76 :: .blk gn #[.int .i64 n.lv, .int .i64 n.lk, .int .i64 n.hi, .slice na n.ks.length nc, .slice nva n.vs.length nvc] 24 :: .row 3 1 (.slice (some ⟨g1, 0, none⟩) (s.bel.length + 1) cap1) (s.bel.length + 1) (ints (s.bel ++ [z + 1])) :: .row 3 1 (.slice (some ⟨g2, 0, none⟩) (s.pts.length + 1) cap2) (s.pts.length + 1) (ints (s.pts ++ [s.step])) :: .row 3 1 (.slice na n.ks.length nc) (n.ks.length) (ints (n.ks)) :: .row 3 1 (.slice nva n.vs.length nvc) (n.vs.length) (ints (n.vs)) :: fr)))
        case first =>
          have s8 := hM2.out.cell (i := 0) rfl 8 (.slice ap s.pts.length cp) rfl
          have s3 := hM2.out.cell (i := 0) rfl 3 (.int .i64 s.step) rfl
          have hl9 := hM2.out.lt (i := 0) rfl
          go_wp2_with (at_builtin; refine wpList_append_lies _ rfl _ _ 22 rfl B 3 i0 (.int .i64 0) 1 8 Tryd.underlying22 hi0 hz0 hz1 hz2 rfl (by decide) _ (s.pts.length) (ints (s.pts)) rfl (World.ownsRow.alloc (hM2.out.get (i := 6) rfl) _) ⟨_, 0, none⟩ 1 1 [.int .i64 s.step] rfl rfl (news_one _ _ _) (by simp [Value.oneCell']) (by omega) (by unfold maxLen; omega) (by omega) (by have := hM2.out.sz; simp at this ⊢; omega) _ rfl ?_; intro gq capq w5 hown hgrow hat hlt1; rw [← ints_snoc] at hown; have hm := (hM2.out.allocd _).lies (i := 6) rfl hown hgrow hat; clear hown hgrow hat; have z7 := hm.cell (i := 0) rfl 8 (.slice ap s.pts.length cp) rfl; have y7 := hm.free (i := 0) rfl 8; have hlg := hm.lt (i := 0) rfl; have H1 := hideIt (hm.store (i := 0) (j := 8) rfl (.slice (some ⟨gq, 0, none⟩) (s.pts.length + 1) capq) rfl); clear hm)
          go_wp2
          go_meet
          case rel => exact ⟨_, _, H1.out⟩
        case rest =>
          obtain ⟨g2, cap2, hM3⟩ := hcut
          clear hM2
          have SV : StV wc (scS s n) (.slice (some ⟨b1, o1, none⟩) 12 kc2) (.slice va2 12 vc2) (.slice (some ⟨g1, 0, none⟩) (s.bel.length + 1) cap1) (.slice (some ⟨g2, 0, none⟩) (s.pts.length + 1) cap2) (.slice ax 0 cx) (.slice ay 0 cy) := by
            refine ⟨?_, ?_, ?_, ?_, rd0 hsp, rd0 hsv⟩
            · have h1 : As.holds wc B (.row 3 1 (.slice (some ⟨b1, o1, none⟩) 12 kc2) (12) (ints (scK s n))) := hM3.out.get (i := 1) rfl
              show Rd wc _ (scK s n)
              rw [← HL1.out] at h1 ⊢; exact owns_rd h1
            · have h1 : As.holds wc B (.row 3 1 (.slice va2 12 vc2) (12) (ints (scV s n))) := hM3.out.get (i := 2) rfl
              show Rd wc _ (scV s n)
              rw [← HL2.out] at h1 ⊢; exact owns_rd h1
            · have h1 : As.holds wc B (.row 3 1 (.slice (some ⟨g1, 0, none⟩) (s.bel.length + 1) cap1) (s.bel.length + 1) (ints (s.bel ++ [z + 1]))) := hM3.out.get (i := 5) rfl
              show Rd wc _ (s.bel ++ [scB s n])
              rw [HBB.out]
              rw [show s.bel.length + 1 = (s.bel ++ [z + 1]).length by simp] at h1 ⊢; exact owns_rd h1
            · have h1 : As.holds wc B (.row 3 1 (.slice (some ⟨g2, 0, none⟩) (s.pts.length + 1) cap2) (s.pts.length + 1) (ints (s.pts ++ [s.step]))) := hM3.out.get (i := 6) rfl
              show Rd wc _ (s.pts ++ [s.step])
              rw [show s.pts.length + 1 = (s.pts ++ [s.step]).length by simp] at h1 ⊢; exact owns_rd h1
          have hzl : ((scS s n).bel.zip (scS s n).pts).length = (scS s n).bel.length := by
            have := HBL.out
            simp [scS, List.length_zip]; omega
          have CS := scanned_any (scS s n) _ _ _ _ _ _ wc SV (by have := HBL.out; simp [scS]; omega) (by simp [scS]; omega)
          obtain ⟨cl, hcl⟩ : ∃ x, ((scS s n).bel.zip (scS s n).pts).length = x := ⟨_, rfl⟩
          rw [← hzl, hcl] at CS
          have HCL := hideIt hcl
          obtain ⟨fdv, hfdv⟩ : ∃ x, decide (0 < (scS s n).keys.length) = x := ⟨_, rfl⟩
          obtain ⟨lnv, hlnv⟩ : ∃ x, ((scS s n).keys.length : Int) = x := ⟨_, rfl⟩
          rw [hfdv, hlnv, show (scS s n).step = s.step from rfl] at CS
          have HCS := hideIt CS
          have HFD := hideIt hfdv
          have HLN := hideIt hlnv
          have HSO : Hid (scO s n = .fin (decide (0 < (scK s n).length)) (scK s n).length s.step (scK s n) (scV s n) ((scS s n).bel.zip (scS s n).pts)) := by unfold Hid scO; rw [HE.out]; rfl
          clear CS hfdv hlnv hzl SV hcl
          go_wp2_with (refine wpList_load_row rfl 98 _ rfl _ rfl 98 _ (0, 0) _ (hM3.out.block (i := 0) rfl) Tryd.underlying98 rfl infoState ?_)
          refine HCS.out.mono ?_
          rintro e w5 ⟨cv5, rfl, hC⟩
          obtain ⟨ca5, cc5, rfl⟩ := As.form0 (hC.get (i := 0) rfl)
          have hM5 := hideIt (hM3.out.join hC)
          clear hC hM3 HCS
          have r0 := hM5.out.cell (i := 4) rfl 0 (.int .i64 0) rfl
          have f0 := hM5.out.free (i := 4) rfl 0
          have r1 := hM5.out.cell (i := 4) rfl 1 (.bool false) rfl
          have f1 := hM5.out.free (i := 4) rfl 1
          have r2 := hM5.out.cell (i := 4) rfl 2 (.int .i64 0) rfl
          have f2 := hM5.out.free (i := 4) rfl 2
          have r3 := hM5.out.cell (i := 4) rfl 3 (.int .i64 0) rfl
          have f3 := hM5.out.free (i := 4) rfl 3
          have r4 := hM5.out.cell (i := 4) rfl 4 (.slice none 0 0) rfl
          have f4 := hM5.out.free (i := 4) rfl 4
          have r5 := hM5.out.cell (i := 4) rfl 5 (.slice none 0 0) rfl
          have f5 := hM5.out.free (i := 4) rfl 5
          have r6 := hM5.out.cell (i := 4) rfl 6 (.slice none 0 0) rfl
          have f6 := hM5.out.free (i := 4) rfl 6
          have S7 := hideIt (hM5.out.store7 (i := 4) rfl (.int .i64 0) (.bool fdv) (.int .i64 lnv) (.int .i64 s.step) (.slice (some ⟨b1, o1, none⟩) 12 kc2) (.slice va2 12 vc2) (.slice ca5 cl cc5))
          clear hM5
          go_wp2
          refine bodyPost_ret (v := .tuple #[.string ⟨#[]⟩, .agg #[.int .i64 0, .bool fdv, .int .i64 lnv, .int .i64 s.step, .slice (some ⟨b1, o1, none⟩) 12 kc2, .slice va2 12 vc2, .slice ca5 cl cc5], .bool true, .int .i64 0]) (by simp [results, Tryd.results106, go_sem, *]) rfl ?_
          rw [HSO.out]
          have hF := S7.out.scOut
          refine ⟨_, _, _, by rw [← HFD.out, ← HLN.out]; rfl, ?_⟩
          rw [HL1.out, HL2.out, HCL.out]
          exact hF
  · have hf' : l < 12 := by omega
    have hfi : (l : Int) < 12 := by omega
    clear hf
    by_cases hh : s.val + 1 < n.hi
    · have HBB : Hid (scB s n = s.val + 1) := by unfold Hid scB; rw [if_neg (by rw [HL1.out]; omega), if_pos hh]
      have HE : Hid (scEnd s n = true) := by unfold Hid scEnd; rw [HBB.out]; simp
      go_upto_region 9 with fail
      go_cut [] (fun wy => ∃ g1 cap1, Hid (M w0 B wy (.blk gs #[.int .i64 s.kd, .int .i64 s.key, .int .i64 s.val, .int .i64 s.step, .int .i64 s.pg, .slice ka2 l kc2, .slice va2 l vc2, .slice (some ⟨g1, 0, none⟩) (s.bel.length + 1) cap1, .slice ap s.pts.length cp, .string s.sw, .int .i64 s.ver, .slice ax 0 cx, .slice ay 0 cy, .int .i64 s.laid, .int .i64 s.lv, .int .i64 s.low, .int .i64 s.ch, .int .i64 s.pt] 98 :: .row 3 1 (.slice ka2 l kc2) (l) (ints (scK s n)) :: .row 3 1 (.slice va2 l vc2) (l) (ints (scV s n)) :: .blk gx #[.int .i64 0, .bool false, .int .i64 0, .int .i64 0, .slice none 0 0, .slice none 0 0, .slice none 0 0] 76 :: .blk gn #[.int .i64 n.lv, .int .i64 n.lk, .int .i64 n.hi, .slice na n.ks.length nc, .slice nva n.vs.length nvc] 24 :: .row 3 1 (.slice (some ⟨g1, 0, none⟩) (s.bel.length + 1) cap1) (s.bel.length + 1) (ints (s.bel ++ [s.val + 1])) :: .row 3 1 (.slice ap s.pts.length cp) (s.pts.length) (ints (s.pts)) :: .row 3 1 (.slice na n.ks.length nc) (n.ks.length) (ints (n.ks)) :: .row 3 1 (.slice nva n.vs.length nvc) (n.vs.length) (ints (n.vs)) :: fr)))
      case first =>
        have s7 := HM.out.cell (i := 0) rfl 7 (.slice ab s.bel.length cb) rfl
        have hl9 := HM.out.lt (i := 0) rfl
        go_wp2_with (at_builtin; refine wpList_append_lies _ rfl _ _ 22 rfl B 3 i0 (.int .i64 0) 1 8 Tryd.underlying22 hi0 hz0 hz1 hz2 rfl (by decide) _ (s.bel.length) (ints (s.bel)) rfl (World.ownsRow.alloc (HM.out.get (i := 5) rfl) _) ⟨_, 0, none⟩ 1 1 [.int .i64 (s.val + 1)] rfl rfl (news_one _ _ _) (by simp [Value.oneCell']) (by omega) (by unfold maxLen; omega) (by omega) (by have := HM.out.sz; simp at this ⊢; omega) _ rfl ?_; intro gq capq w5 hown hgrow hat hlt1; rw [← ints_snoc] at hown; have hm := (HM.out.allocd _).lies (i := 5) rfl hown hgrow hat; clear hown hgrow hat; have z7 := hm.cell (i := 0) rfl 7 (.slice ab s.bel.length cb) rfl; have y7 := hm.free (i := 0) rfl 7; have hlg := hm.lt (i := 0) rfl; have H1 := hideIt (hm.store (i := 0) (j := 7) rfl (.slice (some ⟨gq, 0, none⟩) (s.bel.length + 1) capq) rfl); clear hm)
        go_wp2
        go_meet
        case rel => exact ⟨_, _, H1.out⟩
      case rest =>
        obtain ⟨g1, cap1, hM2⟩ := hcut
        clear HM s2 n2 k5
        go_upto_region 10 with fail
        go_cut [] (fun wy => ∃ g2 cap2, Hid (M w0 B wy (.blk gs #[.int .i64 s.kd, .int .i64 s.key, .int .i64 s.val, .int .i64 s.step, .int .i64 s.pg, .slice ka2 l kc2, .slice va2 l vc2, .slice (some ⟨g1, 0, none⟩) (s.bel.length + 1) cap1, .slice (some ⟨g2, 0, none⟩) (s.pts.length + 1) cap2, .string s.sw, .int .i64 s.ver, .slice ax 0 cx, .slice ay 0 cy, .int .i64 s.laid, .int .i64 s.lv, .int .i64 s.low, .int .i64 s.ch, .int .i64 s.pt] 98 :: .row 3 1 (.slice ka2 l kc2) (l) (ints (scK s n)) :: .row 3 1 (.slice va2 l vc2) (l) (ints (scV s n)) :: .blk gx #[.int .i64 0, .bool false, .int .i64 0, .int .i64 0, .slice none 0 0, .slice none 0 0, .slice none 0 0] 76 :: .blk gn #[.int .i64 n.lv, .int .i64 n.lk, .int .i64 n.hi, .slice na n.ks.length nc, .slice nva n.vs.length nvc] 24 :: .row 3 1 (.slice (some ⟨g1, 0, none⟩) (s.bel.length + 1) cap1) (s.bel.length + 1) (ints (s.bel ++ [s.val + 1])) :: .row 3 1 (.slice (some ⟨g2, 0, none⟩) (s.pts.length + 1) cap2) (s.pts.length + 1) (ints (s.pts ++ [s.step])) :: .row 3 1 (.slice na n.ks.length nc) (n.ks.length) (ints (n.ks)) :: .row 3 1 (.slice nva n.vs.length nvc) (n.vs.length) (ints (n.vs)) :: fr)))
        case first =>
          have s8 := hM2.out.cell (i := 0) rfl 8 (.slice ap s.pts.length cp) rfl
          have s3 := hM2.out.cell (i := 0) rfl 3 (.int .i64 s.step) rfl
          have hl9 := hM2.out.lt (i := 0) rfl
          go_wp2_with (at_builtin; refine wpList_append_lies _ rfl _ _ 22 rfl B 3 i0 (.int .i64 0) 1 8 Tryd.underlying22 hi0 hz0 hz1 hz2 rfl (by decide) _ (s.pts.length) (ints (s.pts)) rfl (World.ownsRow.alloc (hM2.out.get (i := 6) rfl) _) ⟨_, 0, none⟩ 1 1 [.int .i64 s.step] rfl rfl (news_one _ _ _) (by simp [Value.oneCell']) (by omega) (by unfold maxLen; omega) (by omega) (by have := hM2.out.sz; simp at this ⊢; omega) _ rfl ?_; intro gq capq w5 hown hgrow hat hlt1; rw [← ints_snoc] at hown; have hm := (hM2.out.allocd _).lies (i := 6) rfl hown hgrow hat; clear hown hgrow hat; have z7 := hm.cell (i := 0) rfl 8 (.slice ap s.pts.length cp) rfl; have y7 := hm.free (i := 0) rfl 8; have hlg := hm.lt (i := 0) rfl; have H1 := hideIt (hm.store (i := 0) (j := 8) rfl (.slice (some ⟨gq, 0, none⟩) (s.pts.length + 1) capq) rfl); clear hm)
          go_wp2
          go_meet
          case rel => exact ⟨_, _, H1.out⟩
        case rest =>
          obtain ⟨g2, cap2, hM3⟩ := hcut
          clear hM2
          have SV : StV wc (scS s n) (.slice ka2 l kc2) (.slice va2 l vc2) (.slice (some ⟨g1, 0, none⟩) (s.bel.length + 1) cap1) (.slice (some ⟨g2, 0, none⟩) (s.pts.length + 1) cap2) (.slice ax 0 cx) (.slice ay 0 cy) := by
            refine ⟨?_, ?_, ?_, ?_, rd0 hsp, rd0 hsv⟩
            · have h1 : As.holds wc B (.row 3 1 (.slice ka2 l kc2) (l) (ints (scK s n))) := hM3.out.get (i := 1) rfl
              show Rd wc _ (scK s n)
              rw [← HL1.out] at h1 ⊢; exact owns_rd h1
            · have h1 : As.holds wc B (.row 3 1 (.slice va2 l vc2) (l) (ints (scV s n))) := hM3.out.get (i := 2) rfl
              show Rd wc _ (scV s n)
              rw [← HL2.out] at h1 ⊢; exact owns_rd h1
            · have h1 : As.holds wc B (.row 3 1 (.slice (some ⟨g1, 0, none⟩) (s.bel.length + 1) cap1) (s.bel.length + 1) (ints (s.bel ++ [s.val + 1]))) := hM3.out.get (i := 5) rfl
              show Rd wc _ (s.bel ++ [scB s n])
              rw [HBB.out]
              rw [show s.bel.length + 1 = (s.bel ++ [s.val + 1]).length by simp] at h1 ⊢; exact owns_rd h1
            · have h1 : As.holds wc B (.row 3 1 (.slice (some ⟨g2, 0, none⟩) (s.pts.length + 1) cap2) (s.pts.length + 1) (ints (s.pts ++ [s.step]))) := hM3.out.get (i := 6) rfl
              show Rd wc _ (s.pts ++ [s.step])
              rw [show s.pts.length + 1 = (s.pts ++ [s.step]).length by simp] at h1 ⊢; exact owns_rd h1
          have hzl : ((scS s n).bel.zip (scS s n).pts).length = (scS s n).bel.length := by
            have := HBL.out
            simp [scS, List.length_zip]; omega
          have CS := scanned_any (scS s n) _ _ _ _ _ _ wc SV (by have := HBL.out; simp [scS]; omega) (by simp [scS]; omega)
          obtain ⟨cl, hcl⟩ : ∃ x, ((scS s n).bel.zip (scS s n).pts).length = x := ⟨_, rfl⟩
          rw [← hzl, hcl] at CS
          have HCL := hideIt hcl
          obtain ⟨fdv, hfdv⟩ : ∃ x, decide (0 < (scS s n).keys.length) = x := ⟨_, rfl⟩
          obtain ⟨lnv, hlnv⟩ : ∃ x, ((scS s n).keys.length : Int) = x := ⟨_, rfl⟩
          rw [hfdv, hlnv, show (scS s n).step = s.step from rfl] at CS
          have HCS := hideIt CS
          have HFD := hideIt hfdv
          have HLN := hideIt hlnv
          have HSO : Hid (scO s n = .fin (decide (0 < (scK s n).length)) (scK s n).length s.step (scK s n) (scV s n) ((scS s n).bel.zip (scS s n).pts)) := by unfold Hid scO; rw [HE.out]; rfl
          clear CS hfdv hlnv hzl SV hcl
          go_wp2_with (refine wpList_load_row rfl 98 _ rfl _ rfl 98 _ (0, 0) _ (hM3.out.block (i := 0) rfl) Tryd.underlying98 rfl infoState ?_)
          refine HCS.out.mono ?_
          rintro e w5 ⟨cv5, rfl, hC⟩
          obtain ⟨ca5, cc5, rfl⟩ := As.form0 (hC.get (i := 0) rfl)
          have hM5 := hideIt (hM3.out.join hC)
          clear hC hM3 HCS
          have r0 := hM5.out.cell (i := 4) rfl 0 (.int .i64 0) rfl
          have f0 := hM5.out.free (i := 4) rfl 0
          have r1 := hM5.out.cell (i := 4) rfl 1 (.bool false) rfl
          have f1 := hM5.out.free (i := 4) rfl 1
          have r2 := hM5.out.cell (i := 4) rfl 2 (.int .i64 0) rfl
          have f2 := hM5.out.free (i := 4) rfl 2
          have r3 := hM5.out.cell (i := 4) rfl 3 (.int .i64 0) rfl
          have f3 := hM5.out.free (i := 4) rfl 3
          have r4 := hM5.out.cell (i := 4) rfl 4 (.slice none 0 0) rfl
          have f4 := hM5.out.free (i := 4) rfl 4
          have r5 := hM5.out.cell (i := 4) rfl 5 (.slice none 0 0) rfl
          have f5 := hM5.out.free (i := 4) rfl 5
          have r6 := hM5.out.cell (i := 4) rfl 6 (.slice none 0 0) rfl
          have f6 := hM5.out.free (i := 4) rfl 6
          have S7 := hideIt (hM5.out.store7 (i := 4) rfl (.int .i64 0) (.bool fdv) (.int .i64 lnv) (.int .i64 s.step) (.slice ka2 l kc2) (.slice va2 l vc2) (.slice ca5 cl cc5))
          clear hM5
          go_wp2
          refine bodyPost_ret (v := .tuple #[.string ⟨#[]⟩, .agg #[.int .i64 0, .bool fdv, .int .i64 lnv, .int .i64 s.step, .slice ka2 l kc2, .slice va2 l vc2, .slice ca5 cl cc5], .bool true, .int .i64 0]) (by simp [results, Tryd.results106, go_sem, *]) rfl ?_
          rw [HSO.out]
          have hF := S7.out.scOut
          refine ⟨_, _, _, by rw [← HFD.out, ← HLN.out]; rfl, ?_⟩
          rw [HL1.out, HL2.out, HCL.out]
          exact hF
    · have hh' : n.hi ≤ s.val + 1 := by omega
      have HBB : Hid (scB s n = n.hi) := by unfold Hid scB; rw [if_neg (by rw [HL1.out]; omega), if_neg hh]
      clear hh
      by_cases he : n.hi = s.val + 1
      · have heb : (n.hi == s.val + 1) = true := by simp [he]
        have HE : Hid (scEnd s n = true) := by unfold Hid scEnd; rw [HBB.out, he]; simp
        clear he
        go_upto_region 9 with fail
        go_cut [] (fun wy => ∃ g1 cap1, Hid (M w0 B wy (.blk gs #[.int .i64 s.kd, .int .i64 s.key, .int .i64 s.val, .int .i64 s.step, .int .i64 s.pg, .slice ka2 l kc2, .slice va2 l vc2, .slice (some ⟨g1, 0, none⟩) (s.bel.length + 1) cap1, .slice ap s.pts.length cp, .string s.sw, .int .i64 s.ver, .slice ax 0 cx, .slice ay 0 cy, .int .i64 s.laid, .int .i64 s.lv, .int .i64 s.low, .int .i64 s.ch, .int .i64 s.pt] 98 :: .row 3 1 (.slice ka2 l kc2) (l) (ints (scK s n)) :: .row 3 1 (.slice va2 l vc2) (l) (ints (scV s n)) :: .blk gx #[.int .i64 0, .bool false, .int .i64 0, .int .i64 0, .slice none 0 0, .slice none 0 0, .slice none 0 0] 76 :: .blk gn #[.int .i64 n.lv, .int .i64 n.lk, .int .i64 n.hi, .slice na n.ks.length nc, .slice nva n.vs.length nvc] 24 :: .row 3 1 (.slice (some ⟨g1, 0, none⟩) (s.bel.length + 1) cap1) (s.bel.length + 1) (ints (s.bel ++ [n.hi])) :: .row 3 1 (.slice ap s.pts.length cp) (s.pts.length) (ints (s.pts)) :: .row 3 1 (.slice na n.ks.length nc) (n.ks.length) (ints (n.ks)) :: .row 3 1 (.slice nva n.vs.length nvc) (n.vs.length) (ints (n.vs)) :: fr)))
        case first =>
          have s7 := HM.out.cell (i := 0) rfl 7 (.slice ab s.bel.length cb) rfl
          have hl9 := HM.out.lt (i := 0) rfl
          go_wp2_with (at_builtin; refine wpList_append_lies _ rfl _ _ 22 rfl B 3 i0 (.int .i64 0) 1 8 Tryd.underlying22 hi0 hz0 hz1 hz2 rfl (by decide) _ (s.bel.length) (ints (s.bel)) rfl (World.ownsRow.alloc (HM.out.get (i := 5) rfl) _) ⟨_, 0, none⟩ 1 1 [.int .i64 (n.hi)] rfl rfl (news_one _ _ _) (by simp [Value.oneCell']) (by omega) (by unfold maxLen; omega) (by omega) (by have := HM.out.sz; simp at this ⊢; omega) _ rfl ?_; intro gq capq w5 hown hgrow hat hlt1; rw [← ints_snoc] at hown; have hm := (HM.out.allocd _).lies (i := 5) rfl hown hgrow hat; clear hown hgrow hat; have z7 := hm.cell (i := 0) rfl 7 (.slice ab s.bel.length cb) rfl; have y7 := hm.free (i := 0) rfl 7; have hlg := hm.lt (i := 0) rfl; have H1 := hideIt (hm.store (i := 0) (j := 7) rfl (.slice (some ⟨gq, 0, none⟩) (s.bel.length + 1) capq) rfl); clear hm)
          go_wp2
          go_meet
          case rel => exact ⟨_, _, H1.out⟩
        case rest =>
          obtain ⟨g1, cap1, hM2⟩ := hcut
          clear HM s2 n2 k5
          go_upto_region 10 with fail
          go_cut [] (fun wy => ∃ g2 cap2, Hid (M w0 B wy (.blk gs #[.int .i64 s.kd, .int .i64 s.key, .int .i64 s.val, .int .i64 s.step, .int .i64 s.pg, .slice ka2 l kc2, .slice va2 l vc2, .slice (some ⟨g1, 0, none⟩) (s.bel.length + 1) cap1, .slice (some ⟨g2, 0, none⟩) (s.pts.length + 1) cap2, .string s.sw, .int .i64 s.ver, .slice ax 0 cx, .slice ay 0 cy, .int .i64 s.laid, .int .i64 s.lv, .int .i64 s.low, .int .i64 s.ch, .int .i64 s.pt] 98 :: .row 3 1 (.slice ka2 l kc2) (l) (ints (scK s n)) :: .row 3 1 (.slice va2 l vc2) (l) (ints (scV s n)) :: .blk gx #[.int .i64 0, .bool false, .int .i64 0, .int .i64 0, .slice none 0 0, .slice none 0 0, .slice none 0 0] 76 :: .blk gn #[.int .i64 n.lv, .int .i64 n.lk, .int .i64 n.hi, .slice na n.ks.length nc, .slice nva n.vs.length nvc] 24 :: .row 3 1 (.slice (some ⟨g1, 0, none⟩) (s.bel.length + 1) cap1) (s.bel.length + 1) (ints (s.bel ++ [n.hi])) :: .row 3 1 (.slice (some ⟨g2, 0, none⟩) (s.pts.length + 1) cap2) (s.pts.length + 1) (ints (s.pts ++ [s.step])) :: .row 3 1 (.slice na n.ks.length nc) (n.ks.length) (ints (n.ks)) :: .row 3 1 (.slice nva n.vs.length nvc) (n.vs.length) (ints (n.vs)) :: fr)))
          case first =>
            have s8 := hM2.out.cell (i := 0) rfl 8 (.slice ap s.pts.length cp) rfl
            have s3 := hM2.out.cell (i := 0) rfl 3 (.int .i64 s.step) rfl
            have hl9 := hM2.out.lt (i := 0) rfl
            go_wp2_with (at_builtin; refine wpList_append_lies _ rfl _ _ 22 rfl B 3 i0 (.int .i64 0) 1 8 Tryd.underlying22 hi0 hz0 hz1 hz2 rfl (by decide) _ (s.pts.length) (ints (s.pts)) rfl (World.ownsRow.alloc (hM2.out.get (i := 6) rfl) _) ⟨_, 0, none⟩ 1 1 [.int .i64 s.step] rfl rfl (news_one _ _ _) (by simp [Value.oneCell']) (by omega) (by unfold maxLen; omega) (by omega) (by have := hM2.out.sz; simp at this ⊢; omega) _ rfl ?_; intro gq capq w5 hown hgrow hat hlt1; rw [← ints_snoc] at hown; have hm := (hM2.out.allocd _).lies (i := 6) rfl hown hgrow hat; clear hown hgrow hat; have z7 := hm.cell (i := 0) rfl 8 (.slice ap s.pts.length cp) rfl; have y7 := hm.free (i := 0) rfl 8; have hlg := hm.lt (i := 0) rfl; have H1 := hideIt (hm.store (i := 0) (j := 8) rfl (.slice (some ⟨gq, 0, none⟩) (s.pts.length + 1) capq) rfl); clear hm)
            go_wp2
            go_meet
            case rel => exact ⟨_, _, H1.out⟩
          case rest =>
            obtain ⟨g2, cap2, hM3⟩ := hcut
            clear hM2
            have SV : StV wc (scS s n) (.slice ka2 l kc2) (.slice va2 l vc2) (.slice (some ⟨g1, 0, none⟩) (s.bel.length + 1) cap1) (.slice (some ⟨g2, 0, none⟩) (s.pts.length + 1) cap2) (.slice ax 0 cx) (.slice ay 0 cy) := by
              refine ⟨?_, ?_, ?_, ?_, rd0 hsp, rd0 hsv⟩
              · have h1 : As.holds wc B (.row 3 1 (.slice ka2 l kc2) (l) (ints (scK s n))) := hM3.out.get (i := 1) rfl
                show Rd wc _ (scK s n)
                rw [← HL1.out] at h1 ⊢; exact owns_rd h1
              · have h1 : As.holds wc B (.row 3 1 (.slice va2 l vc2) (l) (ints (scV s n))) := hM3.out.get (i := 2) rfl
                show Rd wc _ (scV s n)
                rw [← HL2.out] at h1 ⊢; exact owns_rd h1
              · have h1 : As.holds wc B (.row 3 1 (.slice (some ⟨g1, 0, none⟩) (s.bel.length + 1) cap1) (s.bel.length + 1) (ints (s.bel ++ [n.hi]))) := hM3.out.get (i := 5) rfl
                show Rd wc _ (s.bel ++ [scB s n])
                rw [HBB.out]
                rw [show s.bel.length + 1 = (s.bel ++ [n.hi]).length by simp] at h1 ⊢; exact owns_rd h1
              · have h1 : As.holds wc B (.row 3 1 (.slice (some ⟨g2, 0, none⟩) (s.pts.length + 1) cap2) (s.pts.length + 1) (ints (s.pts ++ [s.step]))) := hM3.out.get (i := 6) rfl
                show Rd wc _ (s.pts ++ [s.step])
                rw [show s.pts.length + 1 = (s.pts ++ [s.step]).length by simp] at h1 ⊢; exact owns_rd h1
            have hzl : ((scS s n).bel.zip (scS s n).pts).length = (scS s n).bel.length := by
              have := HBL.out
              simp [scS, List.length_zip]; omega
            have CS := scanned_any (scS s n) _ _ _ _ _ _ wc SV (by have := HBL.out; simp [scS]; omega) (by simp [scS]; omega)
            obtain ⟨cl, hcl⟩ : ∃ x, ((scS s n).bel.zip (scS s n).pts).length = x := ⟨_, rfl⟩
            rw [← hzl, hcl] at CS
            have HCL := hideIt hcl
            obtain ⟨fdv, hfdv⟩ : ∃ x, decide (0 < (scS s n).keys.length) = x := ⟨_, rfl⟩
            obtain ⟨lnv, hlnv⟩ : ∃ x, ((scS s n).keys.length : Int) = x := ⟨_, rfl⟩
            rw [hfdv, hlnv, show (scS s n).step = s.step from rfl] at CS
            have HCS := hideIt CS
            have HFD := hideIt hfdv
            have HLN := hideIt hlnv
            have HSO : Hid (scO s n = .fin (decide (0 < (scK s n).length)) (scK s n).length s.step (scK s n) (scV s n) ((scS s n).bel.zip (scS s n).pts)) := by unfold Hid scO; rw [HE.out]; rfl
            clear CS hfdv hlnv hzl SV hcl
            go_wp2_with (refine wpList_load_row rfl 98 _ rfl _ rfl 98 _ (0, 0) _ (hM3.out.block (i := 0) rfl) Tryd.underlying98 rfl infoState ?_)
            refine HCS.out.mono ?_
            rintro e w5 ⟨cv5, rfl, hC⟩
            obtain ⟨ca5, cc5, rfl⟩ := As.form0 (hC.get (i := 0) rfl)
            have hM5 := hideIt (hM3.out.join hC)
            clear hC hM3 HCS
            have r0 := hM5.out.cell (i := 4) rfl 0 (.int .i64 0) rfl
            have f0 := hM5.out.free (i := 4) rfl 0
            have r1 := hM5.out.cell (i := 4) rfl 1 (.bool false) rfl
            have f1 := hM5.out.free (i := 4) rfl 1
            have r2 := hM5.out.cell (i := 4) rfl 2 (.int .i64 0) rfl
            have f2 := hM5.out.free (i := 4) rfl 2
            have r3 := hM5.out.cell (i := 4) rfl 3 (.int .i64 0) rfl
            have f3 := hM5.out.free (i := 4) rfl 3
            have r4 := hM5.out.cell (i := 4) rfl 4 (.slice none 0 0) rfl
            have f4 := hM5.out.free (i := 4) rfl 4
            have r5 := hM5.out.cell (i := 4) rfl 5 (.slice none 0 0) rfl
            have f5 := hM5.out.free (i := 4) rfl 5
            have r6 := hM5.out.cell (i := 4) rfl 6 (.slice none 0 0) rfl
            have f6 := hM5.out.free (i := 4) rfl 6
            have S7 := hideIt (hM5.out.store7 (i := 4) rfl (.int .i64 0) (.bool fdv) (.int .i64 lnv) (.int .i64 s.step) (.slice ka2 l kc2) (.slice va2 l vc2) (.slice ca5 cl cc5))
            clear hM5
            go_wp2
            refine bodyPost_ret (v := .tuple #[.string ⟨#[]⟩, .agg #[.int .i64 0, .bool fdv, .int .i64 lnv, .int .i64 s.step, .slice ka2 l kc2, .slice va2 l vc2, .slice ca5 cl cc5], .bool true, .int .i64 0]) (by simp [results, Tryd.results106, go_sem, *]) rfl ?_
            rw [HSO.out]
            have hF := S7.out.scOut
            refine ⟨_, _, _, by rw [← HFD.out, ← HLN.out]; rfl, ?_⟩
            rw [HL1.out, HL2.out, HCL.out]
            exact hF
      · have heb : (n.hi == s.val + 1) = false := by simp [he]
        have HE : Hid (scEnd s n = false) := by
          unfold Hid scEnd
          rw [HBB.out, HL1.out]
          simp [he]; omega
        clear he
        go_upto_region 9 with fail
        go_cut [] (fun wy => ∃ g1 cap1, Hid (M w0 B wy (.blk gs #[.int .i64 s.kd, .int .i64 s.key, .int .i64 s.val, .int .i64 s.step, .int .i64 s.pg, .slice ka2 l kc2, .slice va2 l vc2, .slice (some ⟨g1, 0, none⟩) (s.bel.length + 1) cap1, .slice ap s.pts.length cp, .string s.sw, .int .i64 s.ver, .slice ax 0 cx, .slice ay 0 cy, .int .i64 s.laid, .int .i64 s.lv, .int .i64 s.low, .int .i64 s.ch, .int .i64 s.pt] 98 :: .row 3 1 (.slice ka2 l kc2) (l) (ints (scK s n)) :: .row 3 1 (.slice va2 l vc2) (l) (ints (scV s n)) :: .blk gx #[.int .i64 0, .bool false, .int .i64 0, .int .i64 0, .slice none 0 0, .slice none 0 0, .slice none 0 0] 76 :: .blk gn #[.int .i64 n.lv, .int .i64 n.lk, .int .i64 n.hi, .slice na n.ks.length nc, .slice nva n.vs.length nvc] 24 :: .row 3 1 (.slice (some ⟨g1, 0, none⟩) (s.bel.length + 1) cap1) (s.bel.length + 1) (ints (s.bel ++ [n.hi])) :: .row 3 1 (.slice ap s.pts.length cp) (s.pts.length) (ints (s.pts)) :: .row 3 1 (.slice na n.ks.length nc) (n.ks.length) (ints (n.ks)) :: .row 3 1 (.slice nva n.vs.length nvc) (n.vs.length) (ints (n.vs)) :: fr)))
        case first =>
          have s7 := HM.out.cell (i := 0) rfl 7 (.slice ab s.bel.length cb) rfl
          have hl9 := HM.out.lt (i := 0) rfl
          go_wp2_with (at_builtin; refine wpList_append_lies _ rfl _ _ 22 rfl B 3 i0 (.int .i64 0) 1 8 Tryd.underlying22 hi0 hz0 hz1 hz2 rfl (by decide) _ (s.bel.length) (ints (s.bel)) rfl (World.ownsRow.alloc (HM.out.get (i := 5) rfl) _) ⟨_, 0, none⟩ 1 1 [.int .i64 (n.hi)] rfl rfl (news_one _ _ _) (by simp [Value.oneCell']) (by omega) (by unfold maxLen; omega) (by omega) (by have := HM.out.sz; simp at this ⊢; omega) _ rfl ?_; intro gq capq w5 hown hgrow hat hlt1; rw [← ints_snoc] at hown; have hm := (HM.out.allocd _).lies (i := 5) rfl hown hgrow hat; clear hown hgrow hat; have z7 := hm.cell (i := 0) rfl 7 (.slice ab s.bel.length cb) rfl; have y7 := hm.free (i := 0) rfl 7; have hlg := hm.lt (i := 0) rfl; have H1 := hideIt (hm.store (i := 0) (j := 7) rfl (.slice (some ⟨gq, 0, none⟩) (s.bel.length + 1) capq) rfl); clear hm)
          go_wp2
          go_meet
          case rel => exact ⟨_, _, H1.out⟩
        case rest =>
          obtain ⟨g1, cap1, hM2⟩ := hcut
          clear HM s2 n2 k5
          go_upto_region 10 with fail
          go_cut [] (fun wy => ∃ g2 cap2, Hid (M w0 B wy (.blk gs #[.int .i64 s.kd, .int .i64 s.key, .int .i64 s.val, .int .i64 s.step, .int .i64 s.pg, .slice ka2 l kc2, .slice va2 l vc2, .slice (some ⟨g1, 0, none⟩) (s.bel.length + 1) cap1, .slice (some ⟨g2, 0, none⟩) (s.pts.length + 1) cap2, .string s.sw, .int .i64 s.ver, .slice ax 0 cx, .slice ay 0 cy, .int .i64 s.laid, .int .i64 s.lv, .int .i64 s.low, .int .i64 s.ch, .int .i64 s.pt] 98 :: .row 3 1 (.slice ka2 l kc2) (l) (ints (scK s n)) :: .row 3 1 (.slice va2 l vc2) (l) (ints (scV s n)) :: .blk gx #[.int .i64 0, .bool false, .int .i64 0, .int .i64 0, .slice none 0 0, .slice none 0 0, .slice none 0 0] 76 :: .blk gn #[.int .i64 n.lv, .int .i64 n.lk, .int .i64 n.hi, .slice na n.ks.length nc, .slice nva n.vs.length nvc] 24 :: .row 3 1 (.slice (some ⟨g1, 0, none⟩) (s.bel.length + 1) cap1) (s.bel.length + 1) (ints (s.bel ++ [n.hi])) :: .row 3 1 (.slice (some ⟨g2, 0, none⟩) (s.pts.length + 1) cap2) (s.pts.length + 1) (ints (s.pts ++ [s.step])) :: .row 3 1 (.slice na n.ks.length nc) (n.ks.length) (ints (n.ks)) :: .row 3 1 (.slice nva n.vs.length nvc) (n.vs.length) (ints (n.vs)) :: fr)))
          case first =>
            have s8 := hM2.out.cell (i := 0) rfl 8 (.slice ap s.pts.length cp) rfl
            have s3 := hM2.out.cell (i := 0) rfl 3 (.int .i64 s.step) rfl
            have hl9 := hM2.out.lt (i := 0) rfl
            go_wp2_with (at_builtin; refine wpList_append_lies _ rfl _ _ 22 rfl B 3 i0 (.int .i64 0) 1 8 Tryd.underlying22 hi0 hz0 hz1 hz2 rfl (by decide) _ (s.pts.length) (ints (s.pts)) rfl (World.ownsRow.alloc (hM2.out.get (i := 6) rfl) _) ⟨_, 0, none⟩ 1 1 [.int .i64 s.step] rfl rfl (news_one _ _ _) (by simp [Value.oneCell']) (by omega) (by unfold maxLen; omega) (by omega) (by have := hM2.out.sz; simp at this ⊢; omega) _ rfl ?_; intro gq capq w5 hown hgrow hat hlt1; rw [← ints_snoc] at hown; have hm := (hM2.out.allocd _).lies (i := 6) rfl hown hgrow hat; clear hown hgrow hat; have z7 := hm.cell (i := 0) rfl 8 (.slice ap s.pts.length cp) rfl; have y7 := hm.free (i := 0) rfl 8; have hlg := hm.lt (i := 0) rfl; have H1 := hideIt (hm.store (i := 0) (j := 8) rfl (.slice (some ⟨gq, 0, none⟩) (s.pts.length + 1) capq) rfl); clear hm)
            go_wp2
            go_meet
            case rel => exact ⟨_, _, H1.out⟩
          case rest =>
            obtain ⟨g2, cap2, hM3⟩ := hcut
            clear hM2
            have SV : StV wc (scS s n) (.slice ka2 l kc2) (.slice va2 l vc2) (.slice (some ⟨g1, 0, none⟩) (s.bel.length + 1) cap1) (.slice (some ⟨g2, 0, none⟩) (s.pts.length + 1) cap2) (.slice ax 0 cx) (.slice ay 0 cy) := by
              refine ⟨?_, ?_, ?_, ?_, rd0 hsp, rd0 hsv⟩
              · have h1 : As.holds wc B (.row 3 1 (.slice ka2 l kc2) (l) (ints (scK s n))) := hM3.out.get (i := 1) rfl
                show Rd wc _ (scK s n)
                rw [← HL1.out] at h1 ⊢; exact owns_rd h1
              · have h1 : As.holds wc B (.row 3 1 (.slice va2 l vc2) (l) (ints (scV s n))) := hM3.out.get (i := 2) rfl
                show Rd wc _ (scV s n)
                rw [← HL2.out] at h1 ⊢; exact owns_rd h1
              · have h1 : As.holds wc B (.row 3 1 (.slice (some ⟨g1, 0, none⟩) (s.bel.length + 1) cap1) (s.bel.length + 1) (ints (s.bel ++ [n.hi]))) := hM3.out.get (i := 5) rfl
                show Rd wc _ (s.bel ++ [scB s n])
                rw [HBB.out]
                rw [show s.bel.length + 1 = (s.bel ++ [n.hi]).length by simp] at h1 ⊢; exact owns_rd h1
              · have h1 : As.holds wc B (.row 3 1 (.slice (some ⟨g2, 0, none⟩) (s.pts.length + 1) cap2) (s.pts.length + 1) (ints (s.pts ++ [s.step]))) := hM3.out.get (i := 6) rfl
                show Rd wc _ (s.pts ++ [s.step])
                rw [show s.pts.length + 1 = (s.pts ++ [s.step]).length by simp] at h1 ⊢; exact owns_rd h1
            have HSO : Hid (scO s n = .on { scS s n with pg := n.lk, step := s.step + 1 }) := by unfold Hid scO; rw [HE.out]; rfl
            obtain ⟨hk1, hk2⟩ := HLK.out HE.out
            have HCS := hideIt (readOn_any (scS s n) n.lk _ _ _ _ _ _ wc (HT.out _ _ hM3.out) SV hk2 (by show s.step ≤ 1000000000; omega) hs0 hk1)
            have n1 := hM3.out.cell (i := 4) rfl 1 (.int .i64 n.lk) rfl
            clear SV hk1 hk2
            go_wp2_with (refine wpList_load_row rfl 98 _ rfl _ rfl 98 _ (0, 0) _ (hM3.out.block (i := 0) rfl) Tryd.underlying98 rfl infoState ?_)
            refine HCS.out.mono ?_
            rintro e w5 ⟨⟨c5, rfl, hc5⟩, hb5⟩
            have hM5 := hideIt (hM3.out.below hb5)
            have HC5 := hideIt hc5
            clear hc5 hb5 hM3 HCS n1
            have r0 := hM5.out.cell (i := 3) rfl 0 (.int .i64 0) rfl
            have f0 := hM5.out.free (i := 3) rfl 0
            have r1 := hM5.out.cell (i := 3) rfl 1 (.bool false) rfl
            have f1 := hM5.out.free (i := 3) rfl 1
            have r2 := hM5.out.cell (i := 3) rfl 2 (.int .i64 0) rfl
            have f2 := hM5.out.free (i := 3) rfl 2
            have r3 := hM5.out.cell (i := 3) rfl 3 (.int .i64 0) rfl
            have f3 := hM5.out.free (i := 3) rfl 3
            have r4 := hM5.out.cell (i := 3) rfl 4 (.slice none 0 0) rfl
            have f4 := hM5.out.free (i := 3) rfl 4
            have r5 := hM5.out.cell (i := 3) rfl 5 (.slice none 0 0) rfl
            have f5 := hM5.out.free (i := 3) rfl 5
            have r6 := hM5.out.cell (i := 3) rfl 6 (.slice none 0 0) rfl
            have f6 := hM5.out.free (i := 3) rfl 6
            have S7 := hideIt (hM5.out.store7 (i := 3) rfl (.int .i64 0) (.bool false) (.int .i64 0) (.int .i64 0) (.slice none 0 0) (.slice none 0 0) (.slice none 0 0))
            clear hM5
            rw [show ans0 = #[.int .i64 0, .bool false, .int .i64 0, .int .i64 0, .slice none 0 0, .slice none 0 0, .slice none 0 0] from rfl]
            go_wp2
            refine bodyPost_ret (v := .tuple #[.string c5, .agg #[.int .i64 0, .bool false, .int .i64 0, .int .i64 0, .slice none 0 0, .slice none 0 0, .slice none 0 0], .bool false, .int .i64 0]) (by simp [results, Tryd.results106, go_sem, *]) rfl ?_
            rw [HSO.out]
            exact ⟨⟨c5, rfl, HC5.out⟩, S7.out.scOn⟩
end Go.Proofs.YtajobgmnmbnhiaaDoor.Sap
