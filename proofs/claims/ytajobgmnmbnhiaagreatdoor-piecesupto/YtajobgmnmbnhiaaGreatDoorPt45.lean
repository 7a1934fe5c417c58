/- WHAT IS PROVED HERE: saplingkeep's pieces answers true of a Scan that has ended as it should, each piece held against the map of its time. Conditions: all operations have ended; what is asked of each piece is named at the theorem. -/
import Derived.Test.YtajobgmnmbnhiaaGreatDoorPt19
import Derived.Test.YtajobgmnmbnhiaaGreatDoorPt44
namespace Go.Proofs.YtajobgmnmbnhiaaGreatDoor.Sap
open Go.RowKit
theorem cutc_at {l : List (Int × Int)} : ∀ {i : Nat} {c : Int × Int}, l[i]? = some c → (cutc l)[i * 2]? = some (.int .i64 c.1) ∧ (cutc l)[i * 2 + 1]? = some (.int .i64 c.2) := by
  induction l with
  | nil => intro i d h; simp at h
  | cons a l ih =>
    intro i d h
    have e : cutc (a :: l) = [.int .i64 a.1, .int .i64 a.2] ++ cutc l := rfl
    rw [e]
    cases i with
    | zero => simp at h; subst h; exact ⟨rfl, rfl⟩
    | succ i =>
      obtain ⟨h1, h2⟩ := ih (i := i) (c := d) (by simpa using h)
      rw [show (i + 1) * 2 = 2 + i * 2 by omega]
      refine ⟨?_, ?_⟩
      · rw [List.getElem?_append_right (by simp)]; simpa using h1
      · rw [List.getElem?_append_right (by simp; omega)]; simpa [Nat.add_assoc] using h2
def lastT (ts pts : List Int) : Nat → Int
  | 0 => -1
  | i + 1 => ts[(pts[i]?.getD 0).toNat]?.getD 0
structure PcR (K V ks vs : List Int) (key val : Int) (bel pts ts : List Int) (sn : Nat → Nat) (i : Nat) (p : Nat) (below : Int) (k : Nat) : Prop where
  pt : pts[i]? = some (p : Int)
  pj : p < ts.length
  be : bel[i]? = some below
  last : lastT ts pts i < ts[p]?.getD 0
  lo : fromV bel key i < below
  hi : below ≤ val + 1
  cnt : cntW K (fromV bel key i) below K.length = k
  nx : sn i + k = sn (i + 1)
  le : sn (i + 1) ≤ ks.length
  keys : ∀ m, m < k → fromV bel key i ≤ ks[sn i + m]?.getD 0 ∧ ks[sn i + m]?.getD 0 < below ∧ ∀ fd v, ValR K V (ks[sn i + m]?.getD 0) fd v → fd = true ∧ v = vs[sn i + m]?.getD 0
structure PcsOk0 (x : Wd) (d : Dd) (m : Nat) (bel pts : List Int) (b : Int) (sn : Nat → Nat) : Prop where
  er : d.er = 0
  fd : d.fd = decide (0 < d.ks.length)
  va : d.va = d.ks.length
  cs : d.cs = bel.zip pts
  bl : bel.length = m + 1
  pl : pts.length = m + 1
  mm : m ≤ 1000000
  ks : d.ks.length = d.vs.length
  s0 : sn 0 = 0
  sE : sn (m + 1) = d.ks.length
  fE : fromV bel d.key (m + 1) = b
  pt : pts.getLast? = some d.pt
  pa : ∀ i, i < m + 1 → ∃ p be k, ∀ o', o'.Perm (tkL x.ds) → Srt o' → PcR (tabO (ahead o' (d.ts[p]?.getD 0))).1 (tabO (ahead o' (d.ts[p]?.getD 0))).2 d.ks d.vs d.key d.v bel pts d.ts sn i p be k
  ri : ∀ i, i + 1 < d.ks.length → d.ks[i]?.getD 0 < d.ks[i + 1]?.getD 0
  bb : d.key + 1 ≤ b ∧ b ≤ d.v + 1
  h12 : d.ks.length ≤ 12
  nd : (d.ks.length = 12 ∧ b = d.ks.getLast?.getD 0 + 1) ∨ (d.ks.length < 12 ∧ b = d.v + 1)
  v0 : 0 ≤ d.v
  v1 : d.v ≤ 9999
  k0 : 0 ≤ d.key
def PcsOk (x : Wd) (d : Dd) : Prop := ∃ m bel pts b sn, PcsOk0 x d m bel pts b sn
end Go.Proofs.YtajobgmnmbnhiaaGreatDoor.Sap
