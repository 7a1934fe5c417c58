/- WHAT IS PROVED HERE: plain facts on pages that hold a tree's levels: how a level that is laid behind those below it makes pages that stand; the leaves hold the map's keys in their ranges; with the root laid, the pages stand (no program's function is walked). Conditions: none but those named at each theorem. -/
import Derived.Test.YtajobgmnmbnhiaaGreatDoorXU0T2
import Derived.Test.YtajobgmnmbnhiaaGreatDoorXParseF0
import Derived.Test.YtajobgmnmbnhiaaGreatDoorXL2X0
import Derived.Test.YtajobgmnmbnhiaaGreatDoorXS4S5
import Derived.Test.YtajobgmnmbnhiaaGreatDoorC1
namespace Go.Proofs.YtajobgmnmbnhiaaGreatDoor.Sap
open Go.RowKit

/-- Page q, from a on, below b, is the text of the node n. -/
def AtP (T : List ByteArray) (a b q : Nat) (n : Nd) : Prop := a ≤ q ∧ q < b ∧ ∃ t, T[q]? = some t ∧ Unp t.data.toList n
theorem AtP.uniq {T : List ByteArray} {a b c d q : Nat} {n m : Nd} (h : AtP T a b q n) (k : AtP T c d q m) : n = m := by
  obtain ⟨-, -, t, h1, h2⟩ := h
  obtain ⟨-, -, s, k1, k2⟩ := k
  rw [h1] at k1; cases k1
  exact h2.uniq k2
theorem AtP.mono {T T' : List ByteArray} {a b a' b' q : Nat} {n : Nd} (h : AtP T a b q n) (ha : a' ≤ a) (hb : b ≤ b') (hT : ∀ i, a ≤ i → i < b → T'[i]? = T[i]?) : AtP T' a' b' q n := by
  obtain ⟨h1, h2, t, h3, h4⟩ := h
  exact ⟨by omega, by omega, t, by rw [hT q h1 h2]; exact h3, h4⟩

/-- What a look at page p, with the node n, leads to. -/
structure Stp (P : Nat → Nd → Prop) (KV : List (Int × Int)) (rk : Nat → Nat) (lo : Nat → Int) (p : Nat) (n : Nd) : Prop where
  link : n.hi ≠ 10000 → ∃ (q : Nat) (m : Nd), n.lk = (q : Int) ∧ P q m ∧ m.lv = n.lv ∧ lo q = n.hi ∧ rk q < rk p
  kids : n.lv ≠ 0 → n.ks[0]? = some (lo p) ∧ ∀ (i : Nat) (k c : Int), n.ks[i]? = some k → n.vs[i]? = some c → ∃ (q : Nat) (m : Nd), c = (q : Int) ∧ P q m ∧ lo q = k ∧ rk q < rk p
  leaf : n.lv = 0 → KV.filter (fun x => decide (lo p ≤ x.1) && decide (x.1 < n.hi)) = n.ks.zip n.vs

/-- The pages 1 to p0 - 1 stand. -/
structure Pl (T : List ByteArray) (p0 : Nat) (KV : List (Int × Int)) (rk : Nat → Nat) (lo : Nat → Int) : Prop where
  ok : ∀ p, 1 ≤ p → p < p0 → ∃ n, AtP T 1 p0 p n ∧ Stp (AtP T 1 p0) KV rk lo p n
  rk : ∀ p, 1 ≤ p → p < p0 → rk p + 1 < p0
/-- Nodes that will come to lie behind them. -/
structure Pe (T : List ByteArray) (p0 : Nat) (KV : List (Int × Int)) (lo : Nat → Int) (ns : List Nv) (L : Int) : Prop where
  nz : ns ≠ []
  lv : ∀ x ∈ ns, x.n.lv = L
  ne : ∀ (i : Nat) (x : Nv), 0 < i → ns[i]? = some x → x.n.ks ≠ []
  kids : L ≠ 0 → ∀ (i : Nat) (x : Nv), ns[i]? = some x → x.n.ks[0]? = some (bnd ns i) ∧ ∀ (j : Nat) (k c : Int), x.n.ks[j]? = some k → x.n.vs[j]? = some c → ∃ (q : Nat) (m : Nd), c = (q : Int) ∧ AtP T 1 p0 q m ∧ lo q = k
  leaf : L = 0 → ∀ (i : Nat) (x : Nv), ns[i]? = some x → KV.filter (fun y => decide (bnd ns i ≤ y.1) && decide (y.1 < hiOf ns i)) = x.n.ks.zip x.n.vs

theorem linkN_at (ns : List Nv) (f : Int) (i : Nat) : (linkN ns f)[i]? = (ns[i]?).map (lnk ns f i) := by
  unfold linkN linkUp
  rw [List.getElem?_mapIdx]
  cases h : ns[i]? with
  | none => rfl
  | some x =>
    have := (List.getElem?_eq_some_iff.1 h).1
    simp [this]
theorem linkN_len (ns : List Nv) (f : Int) : (linkN ns f).length = ns.length := linkUp_len _ _ _

/-- The ranks and the beginnings, behind a new level. -/
def rk2 (rk : Nat → Nat) (p0 n : Nat) (p : Nat) : Nat := if p0 ≤ p then (p0 - 1) + (n - 1 - (p - p0)) else rk p
def lo2 (lo : Nat → Int) (ns : List Nv) (p0 : Nat) (p : Nat) : Int := if p0 ≤ p then bnd ns (p - p0) else lo p

theorem Stp.mono {T T' : List ByteArray} {p0 q0 : Nat} {KV : List (Int × Int)} {rk : Nat → Nat} {lo : Nat → Int} {ns : List Nv} {n : Nat} {p : Nat} {x : Nd} (h : Stp (AtP T 1 p0) KV rk lo p x) (hp : p < p0) (hq : p0 ≤ q0) (hT : ∀ i, 1 ≤ i → i < p0 → T'[i]? = T[i]?) :
    Stp (AtP T' 1 q0) KV (rk2 rk p0 n) (lo2 lo ns p0) p x := by
  have e1 : ∀ q, q < p0 → rk2 rk p0 n q = rk q := fun q hq => by unfold rk2; rw [if_neg (by omega)]
  have e2 : ∀ q, q < p0 → lo2 lo ns p0 q = lo q := fun q hq => by unfold lo2; rw [if_neg (by omega)]
  refine ⟨fun hh => ?_, fun hh => ?_, fun hh => ?_⟩
  · obtain ⟨q, m, a1, a2, a3, a4, a5⟩ := h.link hh
    have hq2 := a2.2.1
    exact ⟨q, m, a1, a2.mono (Nat.le_refl _) hq hT, a3, by rw [e2 q hq2]; exact a4, by rw [e1 q hq2, e1 p hp]; exact a5⟩
  · obtain ⟨b1, b2⟩ := h.kids hh
    refine ⟨by rw [e2 p hp]; exact b1, fun i k c h1 h2 => ?_⟩
    obtain ⟨q, m, a1, a2, a3, a4⟩ := b2 i k c h1 h2
    have hq2 := a2.2.1
    exact ⟨q, m, a1, a2.mono (Nat.le_refl _) hq hT, by rw [e2 q hq2]; exact a3, by rw [e1 q hq2, e1 p hp]; exact a4⟩
  · rw [e2 p hp]; exact h.leaf hh

/-- A level is laid. -/
theorem Pl.place {T T' : List ByteArray} {p0 : Nat} {KV : List (Int × Int)} {rk : Nat → Nat} {lo : Nat → Int} {ns : List Nv} {lv : Int} (h : Pl T p0 KV rk lo) (he : Pe T p0 KV lo ns lv) (hp0 : 1 ≤ p0)
    (hT : ∀ i, 1 ≤ i → i < p0 → T'[i]? = T[i]?) (hN : ∀ i x, (linkN ns (p0 : Int))[i]? = some x → ∃ t, T'[p0 + i]? = some t ∧ Unp t.data.toList x.n) :
    Pl T' (p0 + ns.length) KV (rk2 rk p0 ns.length) (lo2 lo ns p0) := by
  have hAt : ∀ i, i < ns.length → ∃ x, ns[i]? = some x ∧ AtP T' 1 (p0 + ns.length) (p0 + i) (lnk ns (p0 : Int) i x).n := by
    intro i hi
    have hx : ns[i]? = some ns[i] := List.getElem?_eq_getElem hi
    obtain ⟨t, t1, t2⟩ := hN i (lnk ns (p0 : Int) i ns[i]) (by rw [linkN_at, hx]; rfl)
    exact ⟨ns[i], hx, by omega, by omega, t, t1, t2⟩
  refine ⟨fun p h1 h2 => ?_, fun p h1 h2 => ?_⟩
  · rcases Nat.lt_or_ge p p0 with hlt | hge
    · obtain ⟨n, a1, a2⟩ := h.ok p h1 hlt
      exact ⟨n, a1.mono (Nat.le_refl _) (by omega) hT, a2.mono hlt (by omega) hT⟩
    · obtain ⟨i, rfl⟩ : ∃ i, p = p0 + i := ⟨p - p0, by omega⟩
      have hi : i < ns.length := by omega
      obtain ⟨x, hx, hA⟩ := hAt i hi
      have hlvx : x.n.lv = lv := he.lv x (List.mem_of_getElem? hx)
      have er : rk2 rk p0 ns.length (p0 + i) = (p0 - 1) + (ns.length - 1 - i) := by unfold rk2; rw [if_pos (by omega)]; congr 1; omega
      have el : lo2 lo ns p0 (p0 + i) = bnd ns i := by unfold lo2; rw [if_pos (by omega)]; congr 1; omega
      refine ⟨_, hA, fun hh => ?_, fun hh => ?_, fun hh => ?_⟩
      · have hi1 : i + 1 < ns.length := by
          rcases Nat.lt_or_ge (i + 1) ns.length with h' | h'
          · exact h'
          · exfalso; apply hh; show hiOf ns i = 10000; unfold hiOf; rw [if_neg (by omega)]
        obtain ⟨y, hy, hB⟩ := hAt (i + 1) hi1
        have hlvy : y.n.lv = lv := he.lv y (List.mem_of_getElem? hy)
        refine ⟨p0 + (i + 1), _, ?_, hB, ?_, ?_, ?_⟩
        · show lkOf ns (p0 : Int) i = _; unfold lkOf; rw [if_pos hi1]; omega
        · show y.n.lv = x.n.lv; rw [hlvx, hlvy]
        · show lo2 lo ns p0 (p0 + (i + 1)) = hiOf ns i
          unfold lo2 hiOf; rw [if_pos (by omega), if_pos hi1]; congr 1; omega
        · rw [er]; unfold rk2; rw [if_pos (by omega)]; omega
      · have hl : lv ≠ 0 := fun e => hh (by show x.n.lv = 0; rw [hlvx, e])
        obtain ⟨b1, b2⟩ := he.kids hl i x hx
        refine ⟨by rw [el]; exact b1, fun j k c h3 h4 => ?_⟩
        obtain ⟨q, m, a1, a2, a3⟩ := b2 j k c h3 h4
        have hq2 := a2.2.1
        have hq1 := a2.1
        have := h.rk q hq1 hq2
        refine ⟨q, m, a1, a2.mono (Nat.le_refl _) (by omega) hT, ?_, ?_⟩
        · unfold lo2; rw [if_neg (by omega)]; exact a3
        · rw [er]; unfold rk2; rw [if_neg (by omega)]; omega
      · have hl : lv = 0 := by rw [← hlvx]; exact hh
        rw [el]
        exact he.leaf hl i x hx
  · unfold rk2
    split
    · omega
    · have := h.rk p h1 (by omega); omega

/-- No cut lies behind the last. -/
theorem cuts_aux {ns ms : List Nv} {f lv : Int} {cuts : List Nat} {p : Nat} (h1 : cuts.length = ms.length + 1) (h3 : cuts[ms.length]? = some p) (h4 : ∀ i x, ms[i]? = some x → ∃ s e A, cuts[i]? = some s ∧ cuts[i + 1]? = some e ∧ Grp ns f lv x s e A) (d : Nat) : ∀ (i c : Nat), ms.length ≤ i + d → cuts[i]? = some c → c ≤ p := by
  induction d with
  | zero =>
    intro i c hd hc
    have hil : i < cuts.length := (List.getElem?_eq_some_iff.1 hc).1
    have : i = ms.length := by omega
    subst this
    rw [h3] at hc; cases hc; exact Nat.le_refl _
  | succ d ih =>
    intro i c hd hc
    have hil : i < cuts.length := (List.getElem?_eq_some_iff.1 hc).1
    rcases Nat.lt_or_ge i ms.length with hlt | hge
    · have hx : ms[i]? = some ms[i] := List.getElem?_eq_getElem hlt
      obtain ⟨s, e, A, c1, c2, hg⟩ := h4 i _ hx
      rw [hc] at c1; cases c1
      obtain ⟨r, hr⟩ := hg.hd
      have := hg.lt c (by rw [hr]; simp)
      have := ih (i + 1) e (by omega) c2
      omega
    · have : i = ms.length := by omega
      subst this
      rw [h3] at hc; cases hc; exact Nat.le_refl _
theorem cuts_le {ns ms : List Nv} {f lv : Int} {cuts : List Nat} {p : Nat} (h1 : cuts.length = ms.length + 1) (h3 : cuts[ms.length]? = some p) (h4 : ∀ i x, ms[i]? = some x → ∃ s e A, cuts[i]? = some s ∧ cuts[i + 1]? = some e ∧ Grp ns f lv x s e A) : ∀ (i c : Nat), cuts[i]? = some c → c ≤ p := fun i c hc => cuts_aux h1 h3 h4 ms.length i c (by omega) hc
/-- The level above one that was laid will come to lie behind it. -/
theorem Pe.above {T : List ByteArray} {p0 : Nat} {KV : List (Int × Int)} {rk : Nat → Nat} {lo : Nat → Int} {ns ms : List Nv} {lv : Int} (h : Pl T (p0 + ns.length) KV rk (lo2 lo ns p0)) (hp0 : 1 ≤ p0) (hns : ns ≠ []) (hlv : 0 ≤ lv) (ha : Abv ns (p0 : Int) lv ms ns.length) :
    Pe T (p0 + ns.length) KV (lo2 lo ns p0) ms (lv + 1) := by
  obtain ⟨cuts, h1, h2, h3, h4⟩ := ha
  have hpos : 0 < ns.length := List.length_pos_iff.2 hns
  refine ⟨?_, ?_, ?_, ?_, fun e => by omega⟩
  · intro e
    subst e
    rw [List.length_nil] at h3
    rw [h2] at h3
    have := Option.some.inj h3
    omega
  · intro x hx
    obtain ⟨i, hi⟩ := List.mem_iff_getElem?.1 hx
    obtain ⟨s, e, A, -, -, hg⟩ := h4 i x hi
    exact hg.lv
  · intro i x _ hi
    obtain ⟨s, e, A, -, -, hg⟩ := h4 i x hi
    obtain ⟨r, hr⟩ := hg.hd
    rw [hg.ks, hr]; simp
  · intro _ i x hi
    obtain ⟨s, e, A, c1, c2, hg⟩ := h4 i x hi
    obtain ⟨r, hr⟩ := hg.hd
    have hen : e ≤ ns.length := by
      by_cases hl : i + 1 = ms.length
      · rw [hl, h3] at c2; cases c2; exact Nat.le_refl _
      · have hil : i < ms.length := (List.getElem?_eq_some_iff.1 hi).1
        exact cuts_le h1 h3 h4 (i + 1) e c2
    have hk0 : x.n.ks[0]? = some (bnd ns s) := by rw [hg.ks, hr]; simp
    refine ⟨?_, fun j k c hj hc => ?_⟩
    · rw [hk0]
      congr 1
      by_cases hi0 : i = 0
      · subst hi0
        rw [h2] at c1; cases c1
        simp [bnd]
      · show bnd ns s = bnd ms i
        conv => rhs; unfold bnd
        rw [if_neg hi0, hi]
        show bnd ns s = x.n.ks[0]?.getD 0
        rw [hk0]; rfl
    · rw [hg.ks, List.getElem?_map] at hj
      rw [hg.vs, List.getElem?_map] at hc
      cases hA : A[j]? with
      | none => rw [hA] at hj; cases hj
      | some a =>
        rw [hA] at hj hc
        simp only [Option.map_some, Option.some.injEq] at hj hc
        have hae := hg.lt a (List.mem_of_getElem? hA)
        obtain ⟨n, hn, -⟩ := h.ok (p0 + a) (by omega) (by omega)
        refine ⟨p0 + a, n, by rw [← hc]; omega, hn, ?_⟩
        unfold lo2; rw [if_pos (by omega), ← hj]; congr 1; omega

/-- Pages that stand: 0 is the root, all below p0 are there. -/
structure Tree (T : List ByteArray) (p0 : Nat) (KV : List (Int × Int)) (rk : Nat → Nat) (lo : Nat → Int) : Prop where
  pos : 1 ≤ p0
  ok : ∀ p, p < p0 → ∃ n, AtP T 0 p0 p n ∧ Stp (AtP T 0 p0) KV rk lo p n
  rk : ∀ p, p < p0 → rk p < p0
  lo0 : lo 0 = 0
  root : ∀ n, AtP T 0 p0 0 n → n.hi = 10000

def rk3 (rk : Nat → Nat) (p0 : Nat) (p : Nat) : Nat := if p = 0 then p0 - 1 else rk p
def lo3 (lo : Nat → Int) (p : Nat) : Int := if p = 0 then 0 else lo p

theorem Tree.make {T T' : List ByteArray} {p0 : Nat} {KV : List (Int × Int)} {rk : Nat → Nat} {lo : Nat → Int} {x : Nv} {lv : Int} {t : ByteArray} (h : Pl T p0 KV rk lo) (he : Pe T p0 KV lo [x] lv) (hp0 : 1 ≤ p0)
    (hT : ∀ i, 1 ≤ i → i < p0 → T'[i]? = T[i]?) (h0 : T'[0]? = some t) (hu : Unp t.data.toList (lnk [x] 0 0 x).n) : Tree T' p0 KV (rk3 rk p0) (lo3 lo) := by
  have e1 : ∀ q, 1 ≤ q → rk3 rk p0 q = rk q := fun q hq => by unfold rk3; rw [if_neg (by omega)]
  have e2 : ∀ q, 1 ≤ q → lo3 lo q = lo q := fun q hq => by unfold lo3; rw [if_neg (by omega)]
  have hA0 : AtP T' 0 p0 0 (lnk [x] 0 0 x).n := ⟨Nat.le_refl _, by omega, t, h0, hu⟩
  have hhi : (lnk [x] 0 0 x).n.hi = 10000 := rfl
  have hx : ([x] : List Nv)[0]? = some x := rfl
  have hlv : x.n.lv = lv := he.lv x (by simp)
  have hb0 : bnd [x] 0 = 0 := rfl
  refine ⟨hp0, fun p hp => ?_, fun p hp => ?_, rfl, fun n hn => by rw [hn.uniq hA0]; exact hhi⟩
  · rcases Nat.eq_zero_or_pos p with rfl | h1
    · refine ⟨_, hA0, fun hh => absurd hhi hh, fun hh => ?_, fun hh => ?_⟩
      · have hl : lv ≠ 0 := fun e => hh (by show x.n.lv = 0; rw [hlv, e])
        obtain ⟨b1, b2⟩ := he.kids hl 0 x hx
        refine ⟨by rw [hb0] at b1; exact b1, fun i k c h3 h4 => ?_⟩
        obtain ⟨q, m, a1, a2, a3⟩ := b2 i k c h3 h4
        have hq1 := a2.1
        have hq2 := a2.2.1
        have := h.rk q hq1 hq2
        refine ⟨q, m, a1, a2.mono (by omega) (Nat.le_refl _) hT, by rw [e2 q hq1]; exact a3, ?_⟩
        rw [e1 q hq1]; unfold rk3; rw [if_pos rfl]; omega
      · have hl : lv = 0 := by rw [← hlv]; exact hh
        exact he.leaf hl 0 x hx
    · obtain ⟨n, a1, a2⟩ := h.ok p h1 hp
      refine ⟨n, a1.mono (by omega) (Nat.le_refl _) hT, fun hh => ?_, fun hh => ?_, fun hh => ?_⟩
      · obtain ⟨q, m, c1, c2, c3, c4, c5⟩ := a2.link hh
        have hq1 := c2.1
        exact ⟨q, m, c1, c2.mono (by omega) (Nat.le_refl _) hT, c3, by rw [e2 q hq1]; exact c4, by rw [e1 q hq1, e1 p h1]; exact c5⟩
      · obtain ⟨b1, b2⟩ := a2.kids hh
        refine ⟨by rw [e2 p h1]; exact b1, fun i k c h3 h4 => ?_⟩
        obtain ⟨q, m, c1, c2, c3, c4⟩ := b2 i k c h3 h4
        have hq1 := c2.1
        exact ⟨q, m, c1, c2.mono (by omega) (Nat.le_refl _) hT, by rw [e2 q hq1]; exact c3, by rw [e1 q hq1, e1 p h1]; exact c4⟩
      · rw [e2 p h1]; exact a2.leaf hh
  · unfold rk3
    split
    · omega
    · have := h.rk p (by omega) hp; omega

theorem keysOf_cons (x : Nv) (ns : List Nv) : keysOf (x :: ns) = x.n.ks ++ keysOf ns := by simp [keysOf]
theorem valsOf_cons (x : Nv) (ns : List Nv) : valsOf (x :: ns) = x.n.vs ++ valsOf ns := by simp [valsOf]
theorem keysOf_app (a b : List Nv) : keysOf (a ++ b) = keysOf a ++ keysOf b := by simp [keysOf]
theorem valsOf_app (a b : List Nv) : valsOf (a ++ b) = valsOf a ++ valsOf b := by simp [valsOf]
theorem lens_of (ns : List Nv) (h : ∀ x ∈ ns, x.n.ks.length = x.n.vs.length) : (keysOf ns).length = (valsOf ns).length := by
  induction ns with
  | nil => rfl
  | cons x r ih => rw [keysOf_cons, valsOf_cons, List.length_append, List.length_append, ih (fun y hy => h y (by simp [hy])), h x (by simp)]
theorem mem_zip_key {a b : List Int} {x : Int × Int} (h : x ∈ a.zip b) : x.1 ∈ a := (List.of_mem_zip h).1

/-- Leaves in the making hold the map's keys in their ranges. -/
theorem Pe.leaves {T : List ByteArray} {lo : Nat → Int} {ns : List Nv} (hl : LeafL ns) (hn : ns ≠ []) (hk : keysOk 10000 1 (keysOf ns) = true) : Pe T 1 ((keysOf ns).zip (valsOf ns)) lo ns 0 := by
  refine ⟨hn, fun x hx => (hl x hx).1, fun i x _ hi => (hl x (List.mem_of_getElem? hi)).2.1, fun h => absurd rfl h, fun _ i x hi => ?_⟩
  have hil : i < ns.length := (List.getElem?_eq_some_iff.1 hi).1
  have hix : ns[i] = x := (List.getElem?_eq_some_iff.1 hi).2
  have hsplit : ns = ns.take i ++ x :: ns.drop (i + 1) := by
    rw [← hix, List.getElem_cons_drop, List.take_append_drop]
  have hall := keysOk_all _ _ _ hk
  have hp := keysOk_pair _ _ _ hk
  have hlen : ∀ y ∈ ns, y.n.ks.length = y.n.vs.length := fun y hy => (hl y hy).2.2
  obtain ⟨pre, hpre⟩ : ∃ a, ns.take i = a := ⟨_, rfl⟩
  obtain ⟨post, hpost⟩ : ∃ a, ns.drop (i + 1) = a := ⟨_, rfl⟩
  rw [hpre, hpost] at hsplit
  have hplen : pre.length = i := by rw [← hpre, List.length_take]; omega
  have eK : keysOf ns = keysOf pre ++ (x.n.ks ++ keysOf post) := by rw [hsplit, keysOf_app, keysOf_cons]
  have eV : valsOf ns = valsOf pre ++ (x.n.vs ++ valsOf post) := by rw [hsplit, valsOf_app, valsOf_cons]
  have lp : (keysOf pre).length = (valsOf pre).length := lens_of _ fun y hy => hlen y (by rw [hsplit]; simp [hy])
  have lx : x.n.ks.length = x.n.vs.length := hlen x (by rw [hsplit]; simp)
  rw [eK] at hp hall
  rw [eK, eV, List.zip_append lp, List.zip_append lx, List.filter_append, List.filter_append]
  obtain ⟨hp1, hp2, hp3⟩ := List.pairwise_append.1 hp
  obtain ⟨hp4, hp5, hp6⟩ := List.pairwise_append.1 hp2
  obtain ⟨k0, kr, hkx⟩ : ∃ k r, x.n.ks = k :: r := by
    cases hh : x.n.ks with
    | nil => exact absurd hh (hl x (List.mem_of_getElem? hi)).2.1
    | cons k r => exact ⟨k, r, rfl⟩
  have hk0 : x.n.ks[0]?.getD 0 = k0 := by rw [hkx]; rfl
  have hbnd : bnd ns i = if i = 0 then 0 else k0 := by unfold bnd; rw [hi]; simp only [Option.map_some, Option.getD_some, hk0]
  have hlow : ∀ y ∈ x.n.ks, bnd ns i ≤ y := by
    intro y hy
    rw [hbnd]
    split
    · have := hall y (by simp [hy]); omega
    · rw [hkx] at hy hp4
      rcases List.mem_cons.1 hy with rfl | hy
      · exact Int.le_refl _
      · have := (List.pairwise_cons.1 hp4).1 y hy; omega
  have hpre0 : ∀ y ∈ keysOf pre, ¬ bnd ns i ≤ y := by
    intro y hy hc
    have hi0 : i ≠ 0 := fun e => by
      have : pre = [] := List.eq_nil_of_length_eq_zero (by omega)
      rw [this] at hy; simp [keysOf] at hy
    rw [hbnd, if_neg hi0] at hc
    have := hp3 y hy k0 (by rw [hkx]; simp)
    omega
  have hhi : (∀ y ∈ x.n.ks, y < hiOf ns i) ∧ ∀ y ∈ keysOf post, ¬ y < hiOf ns i := by
    by_cases h1 : i + 1 < ns.length
    · cases hpp : post with
      | nil =>
        rw [hpp] at hsplit
        have := congrArg List.length hsplit
        simp at this
        omega
      | cons z r =>
        have hz : ns[i + 1]? = some z := by rw [hsplit, List.getElem?_append_right (by omega), hplen, show i + 1 - i = 1 by omega, hpp]; rfl
        obtain ⟨z0, zr, hzk⟩ : ∃ k r, z.n.ks = k :: r := by
          cases hh : z.n.ks with
          | nil => exact absurd hh (hl z (List.mem_of_getElem? hz)).2.1
          | cons k r => exact ⟨k, r, rfl⟩
        have hh : hiOf ns i = z0 := by
          unfold hiOf bnd
          rw [if_pos h1, if_neg (by omega), hz]
          simp only [Option.map_some, Option.getD_some, hzk]
          rfl
        rw [hh]
        have e1 : keysOf post = z0 :: (zr ++ keysOf r) := by rw [hpp, keysOf_cons, hzk]; rfl
        refine ⟨fun y hy => ?_, fun y hy => ?_⟩
        · exact hp6 y hy z0 (by rw [e1]; simp)
        · rw [← hpp, e1] at hy
          rw [e1] at hp5
          rcases List.mem_cons.1 hy with rfl | hy
          · omega
          · have := (List.pairwise_cons.1 hp5).1 y hy; omega
    · have hpp : post = [] := by
        rw [← hpost]; exact List.drop_of_length_le (by omega)
      have hh : hiOf ns i = 10000 := by unfold hiOf; rw [if_neg h1]
      rw [hh]
      refine ⟨fun y hy => (hall y (by simp [hy])).2, fun y hy => ?_⟩
      rw [hpp] at hy; simp [keysOf] at hy
  rw [List.filter_eq_nil_iff.2, List.filter_eq_self.2, List.filter_eq_nil_iff.2]
  · simp
  · intro y hy
    have := hhi.2 y.1 (mem_zip_key hy)
    simp [this]
  · intro y hy
    have h1 := hlow y.1 (mem_zip_key hy)
    have h2 := hhi.1 y.1 (mem_zip_key hy)
    simp [h1, h2]
  · intro y hy
    have := hpre0 y.1 (mem_zip_key hy)
    simp [this]
theorem Pe.empty {T : List ByteArray} {lo : Nat → Int} {kv vv : Value} : Pe T 1 [] lo [⟨⟨0, 0, 0, [], []⟩, kv, vv⟩] 0 := by
  refine ⟨by simp, ?_, ?_, fun h => absurd rfl h, fun _ i x hi => ?_⟩
  · intro x hx; rw [List.mem_singleton] at hx; subst hx; rfl
  · intro i x h0 hi
    rw [List.getElem?_eq_none (by simp; omega)] at hi; cases hi
  · cases i with
    | zero => simp at hi; subst hi; rfl
    | succ i => simp at hi
theorem Pl.start (T : List ByteArray) (KV : List (Int × Int)) (rk : Nat → Nat) (lo : Nat → Int) : Pl T 1 KV rk lo := ⟨fun p h1 h2 => by omega, fun p h1 h2 => by omega⟩
end Go.Proofs.YtajobgmnmbnhiaaGreatDoor.Sap

/- WHAT IS PROVED HERE: plain facts: over pages that stand, each look of a Get leads nearer to its key's leaf, and the leaf has what the map has (no program's function is walked). Conditions: none but those named at each theorem. -/
namespace Go.Proofs.YtajobgmnmbnhiaaGreatDoor.Sap
open Go.RowKit

theorem chl_spec (ks vs : List Int) (key : Int) (k : Nat) (hk : k ≤ ks.length) (h0 : 0 < k) (hle : ks[0]?.getD 0 ≤ key) : ∃ i, i < k ∧ ks[i]?.getD 0 ≤ key ∧ chl ks vs key k = vs[i]?.getD 0 := by
  induction k with
  | zero => omega
  | succ k ih =>
    by_cases h : ks[k]?.getD 0 ≤ key
    · exact ⟨k, by omega, h, by rw [chl, if_pos h]⟩
    · have hk0 : 0 < k := by
        rcases Nat.eq_zero_or_pos k with rfl | h1
        · exact absurd hle h
        · exact h1
      obtain ⟨i, h1, h2, h3⟩ := ih (by omega) hk0
      exact ⟨i, by omega, h2, by rw [chl, if_neg h]; exact h3⟩

theorem fnd_none (ks vs : List Int) (key : Int) (k : Nat) (h : ∀ i, i < k → ks[i]?.getD 0 ≠ key) : fndB ks key k = false ∧ fndV ks vs key k = 0 := by
  induction k with
  | zero => exact ⟨rfl, rfl⟩
  | succ k ih =>
    have h1 := ih (fun i hi => h i (by omega))
    have h2 := h k (by omega)
    exact ⟨by rw [fndB, if_neg h2]; exact h1.1, by rw [fndV, if_neg h2]; exact h1.2⟩
theorem fnd_some (ks vs : List Int) (key : Int) (k i : Nat) (hi : i < k) (he : ks[i]?.getD 0 = key) (h : ∀ j, i < j → j < k → ks[j]?.getD 0 ≠ key) : fndB ks key k = true ∧ fndV ks vs key k = vs[i]?.getD 0 := by
  induction k with
  | zero => omega
  | succ k ih =>
    by_cases hk : i = k
    · subst hk
      exact ⟨by rw [fndB, if_pos he], by rw [fndV, if_pos he]⟩
    · have h1 := ih (by omega) (fun j h1 h2 => h j h1 (by omega))
      have h2 := h k (by omega) (by omega)
      exact ⟨by rw [fndB, if_neg h2]; exact h1.1, by rw [fndV, if_neg h2]; exact h1.2⟩

theorem zip_at {a b : List Int} {i : Nat} {x y : Int} (ha : a[i]? = some x) (hb : b[i]? = some y) : (x, y) ∈ a.zip b := by
  refine List.mem_of_getElem? (i := i) ?_
  rw [List.getElem?_zip_eq_some]; exact ⟨ha, hb⟩

/-- The leaf of a key has for it what the map has. -/
theorem get_found {K V ks vs : List Int} {key l h : Int} {fd : Bool} {v : Int} (hks : ks.Pairwise (· < ·)) (hlen : ks.length = vs.length) (hf : (K.zip V).filter (fun x => decide (l ≤ x.1) && decide (x.1 < h)) = ks.zip vs)
    (hlo : l ≤ key) (hhi : key < h) (hV : ValR K V key fd v) : fd = fndB ks key ks.length ∧ v = fndV ks vs key ks.length := by
  have hdis : ∀ i j, i < j → j < ks.length → ks[i]?.getD 0 < ks[j]?.getD 0 := by
    intro i j hij hj
    have := List.pairwise_iff_getElem.1 hks i j (by omega) hj hij
    simpa [List.getElem?_eq_getElem (show i < ks.length by omega), List.getElem?_eq_getElem hj] using this
  rcases hV with ⟨rfl, rfl, hno⟩ | ⟨i, rfl, h1, h2, -⟩
  · have hnk : ∀ i, i < ks.length → ks[i]?.getD 0 ≠ key := by
      intro i hi e
      apply hno
      rw [List.getElem?_eq_getElem hi] at e
      simp at e
      have hm : (ks[i], vs[i]'(by omega)) ∈ ks.zip vs := zip_at (List.getElem?_eq_getElem hi) (List.getElem?_eq_getElem (by omega))
      rw [← hf] at hm
      have := (List.mem_filter.1 hm).1
      rw [← e]
      exact mem_zip_key this
    have := fnd_none ks vs key ks.length hnk
    exact ⟨this.1.symm, this.2.symm⟩
  · have hm : (key, v) ∈ ks.zip vs := by
      rw [← hf]
      refine List.mem_filter.2 ⟨zip_at h1 h2, ?_⟩
      simp [hlo, hhi]
    obtain ⟨j, hj⟩ := List.mem_iff_getElem?.1 hm
    rw [List.getElem?_zip_eq_some] at hj
    have hjl : j < ks.length := (List.getElem?_eq_some_iff.1 hj.1).1
    have := fnd_some ks vs key ks.length j hjl (by rw [hj.1]; rfl) (fun i h1 h2 e => by
      have := hdis j i h1 h2
      rw [hj.1] at this
      simp only [Option.getD_some] at this
      omega)
    rw [hj.2] at this
    exact ⟨this.1.symm, this.2.symm⟩

/-- From a page whose node is not the key's leaf a look leads on, to one whose rank is less. -/
theorem look_on {T : List ByteArray} {p0 : Nat} {KV : List (Int × Int)} {rk : Nat → Nat} {lo : Nat → Int} (hT : Tree T p0 KV rk lo) {p : Nat} {n : Nd} {key : Int} (hA : AtP T 0 p0 p n) (hk1 : lo p ≤ key) (hk2 : key ≤ 9999) (hgo : n.lv ≠ 0 ∨ n.hi ≤ key) :
    ∃ q m, onwV n key = ((q : Nat) : Int) ∧ AtP T 0 p0 q m ∧ lo q ≤ key ∧ rk q < rk p := by
  obtain ⟨n', hA', hS⟩ := hT.ok p hA.2.1
  have e := hA.uniq hA'
  subst e
  by_cases hh : n.hi ≤ key
  · obtain ⟨q, m, a1, a2, -, a4, a5⟩ := hS.link (by omega)
    exact ⟨q, m, by unfold onwV; rw [if_pos hh]; exact a1, a2, by rw [a4]; exact hh, a5⟩
  · have hlv : n.lv ≠ 0 := by rcases hgo with h | h; exact h; exact absurd h hh
    obtain ⟨b1, b2⟩ := hS.kids hlv
    have hr := right_bd n (by obtain ⟨-, -, t, -, hu⟩ := hA; exact hu.1)
    have hlen : n.ks.length = n.vs.length := hr.2.2.2.1
    have hpos : 0 < n.ks.length := by
      rcases Nat.eq_zero_or_pos n.ks.length with h | h
      · rw [List.eq_nil_of_length_eq_zero h] at b1; cases b1
      · exact h
    obtain ⟨i, h1, h2, h3⟩ := chl_spec n.ks n.vs key n.ks.length (Nat.le_refl _) hpos (by rw [b1]; exact hk1)
    have hvi : i < n.vs.length := by omega
    obtain ⟨q, m, a1, a2, a3, a4⟩ := b2 i _ _ (List.getElem?_eq_getElem h1) (List.getElem?_eq_getElem hvi)
    rw [List.getElem?_eq_getElem h1] at h2
    rw [List.getElem?_eq_getElem hvi] at h3
    simp only [Option.getD_some] at h2 h3
    exact ⟨q, m, by unfold onwV; rw [if_neg hh, h3]; exact a1, a2, by rw [a3]; exact h2, a4⟩
end Go.Proofs.YtajobgmnmbnhiaaGreatDoor.Sap
