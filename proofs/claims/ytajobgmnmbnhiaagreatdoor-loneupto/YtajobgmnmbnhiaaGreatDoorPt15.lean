/- WHAT IS PROVED HERE: saplingkeep.leaves cuts rising keys into leaves. Conditions: at most 120 keys; the sizes are ints. -/
import Derived.Test.YtajobgmnmbnhiaaGreatDoorPt13
import Derived.Test.YtajobgmnmbnhiaaGreatDoorPt14
import Derived.Deep.AppendLies
import Derived.Deep.RegionLaw
namespace Go.Proofs.YtajobgmnmbnhiaaGreatDoor.Sap
open Go.RowKit
structure Nv where
  n : Nd
  kv : Value
  vv : Value
def Nv.cells (x : Nv) : List Value := [.int .i64 x.n.lv, .int .i64 x.n.lk, .int .i64 x.n.hi, x.kv, x.vv]
def Nv.rows (x : Nv) : List As := [.row 3 1 x.kv x.n.ks.length (ints x.n.ks), .row 3 1 x.vv x.n.vs.length (ints x.n.vs)]
def ncells (l : List Nv) : List Value := l.flatMap Nv.cells
def nrows (l : List Nv) : List As := l.flatMap Nv.rows
theorem M.lies {w0 w w' : World} {B i g cap : Nat} {l : List As} {e : TypeId} {z n m : Nat} {v : Value} {xs ys : List Value} (h : M w0 B w l) (hi : l[i]? = some (.row e z v n xs)) (ho : w'.ownsRow B e z (.slice (some ⟨g, 0, none⟩) m cap) m ys) (hg : w.grownBy w' v.ownBlock)
    (hat : v.ownBlock = some g ∨ g = w.heap.size) : M w0 B w' (l.set i (.row e z (.slice (some ⟨g, 0, none⟩) m cap) m ys)) :=
  h.append hi ho hg (hat.imp (fun e => e.symm) (fun e => by rw [e]; rfl))
theorem ncells_at (ns : List Nv) (i c : Nat) (hc : c < 5) : (ncells ns)[i * 5 + c]? = (ns[i]?).bind fun x => x.cells[c]? := by
  induction ns generalizing i with
  | nil => simp [ncells]
  | cons x r ih =>
    have e : ncells (x :: r) = x.cells ++ ncells r := by simp [ncells]
    have hx : x.cells.length = 5 := rfl
    rw [e]
    cases i with
    | zero => rw [List.getElem?_append_left (by omega)]; simp
    | succ i =>
      rw [List.getElem?_append_right (by omega), hx, show (i + 1) * 5 + c - 5 = i * 5 + c by omega, ih i]
      simp
structure NS (w : World) (B : Nat) (v : Value) (ns : List Nv) : Prop where
  row : As.holds w B (.row 67 5 v ns.length (ncells ns))
  rows : ∀ r ∈ nrows ns, r.holds w B
theorem M.ns {w0 w : World} {B : Nat} {l : List As} {v : Value} {ns : List Nv} (h : M w0 B w l) (h1 : .row 67 5 v ns.length (ncells ns) ∈ l) (h2 : ∀ r ∈ nrows ns, r ∈ l) : NS w B v ns := ⟨h.holds _ h1, fun r hr => h.holds r (h2 r hr)⟩
theorem NS.below {w w' : World} {B : Nat} {v : Value} {ns : List Nv} (h : NS w B v ns) (hb : Below w.heap.size w w') : NS w' B v ns :=
  ⟨h.row.kept fun k hk => hb.block k (h.row.lt hk).2, fun r hr => (h.rows r hr).kept fun k hk => hb.block k ((h.rows r hr).lt hk).2⟩
theorem NS.form {w : World} {B : Nat} {v : Value} {ns : List Nv} (h : NS w B v ns) (hn : 0 < ns.length) : ∃ g cap, v = .slice (some ⟨g, 0, none⟩) ns.length cap := As.form h.row hn
theorem NS.at {w : World} {B g cap : Nat} {ns : List Nv} (h : NS w B (.slice (some ⟨g, 0, none⟩) ns.length cap) ns) (i : Nat) (x : Nv) (hx : ns[i]? = some x) :
    (w.cell? ⟨g, i * 5, none⟩ = some (.int .i64 x.n.lv) ∧ w.cell? ⟨g, i * 5 + 1, none⟩ = some (.int .i64 x.n.lk) ∧ w.cell? ⟨g, i * 5 + 2, none⟩ = some (.int .i64 x.n.hi) ∧ w.cell? ⟨g, i * 5 + 3, none⟩ = some x.kv ∧ w.cell? ⟨g, i * 5 + 4, none⟩ = some x.vv) ∧ (∀ j, w.frozen? ⟨g, j, none⟩ = false) ∧ Rd w x.kv x.n.ks ∧ Rd w x.vv x.n.vs := by
  have hil : i < ns.length := (List.getElem?_eq_some_iff.1 hx).1
  have key : ∀ c, c < 5 → w.cell? ⟨g, i * 5 + c, none⟩ = x.cells[c]? := by
    intro c hc
    rw [World.ownsRow.cellAt h.row _ (by omega), ncells_at _ _ _ hc, hx]; rfl
  have hmem : x ∈ ns := List.mem_of_getElem? hx
  have hr : ∀ r ∈ x.rows, r.holds w B := fun r hr => h.rows r (List.mem_flatMap.2 ⟨x, hmem, hr⟩)
  refine ⟨⟨key 0 (by omega), key 1 (by omega), key 2 (by omega), key 3 (by omega), key 4 (by omega)⟩, fun j => World.ownsRow.frozenAt h.row j, ?_, ?_⟩
  · have h1 : As.holds w B (.row 3 1 x.kv x.n.ks.length (ints x.n.ks)) := hr _ (by simp [Nv.rows])
    exact owns_rd h1
  · have h1 : As.holds w B (.row 3 1 x.vv x.n.vs.length (ints x.n.vs)) := hr _ (by simp [Nv.rows])
    exact owns_rd h1
def bnd (ns : List Nv) (i : Nat) : Int := if i = 0 then 0 else ((ns[i]?).map fun x => x.n.ks[0]?.getD 0).getD 0
theorem NS.at' {w : World} {B g n cap : Nat} {ns : List Nv} (h : NS w B (.slice (some ⟨g, 0, none⟩) n cap) ns) (i : Nat) (x : Nv) (hx : ns[i]? = some x) :
    (w.cell? ⟨g, i * 5, none⟩ = some (.int .i64 x.n.lv) ∧ w.cell? ⟨g, i * 5 + 1, none⟩ = some (.int .i64 x.n.lk) ∧ w.cell? ⟨g, i * 5 + 2, none⟩ = some (.int .i64 x.n.hi) ∧ w.cell? ⟨g, i * 5 + 3, none⟩ = some x.kv ∧ w.cell? ⟨g, i * 5 + 4, none⟩ = some x.vv) ∧ (∀ j, w.frozen? ⟨g, j, none⟩ = false) ∧ Rd w x.kv x.n.ks ∧ Rd w x.vv x.n.vs := by
  have hl : n = ns.length := by
    rcases h.row.2 with ⟨h1, h0⟩ | ⟨g, c, cur, e, -⟩
    · cases h1
    · cases e; rfl
  subst hl
  exact h.at i x hx
def Nv.lk (x : Nv) (a : Int) : Nv := { x with n := { x.n with lk := a } }
def Nv.hi (x : Nv) (a : Int) : Nv := { x with n := { x.n with hi := a } }
def lkOf (ns : List Nv) (f : Int) (i : Nat) : Int := if i + 1 < ns.length then f + i + 1 else -1
def hiOf (ns : List Nv) (i : Nat) : Int := if i + 1 < ns.length then bnd ns (i + 1) else 10000
def lnk (ns : List Nv) (f : Int) (i : Nat) (x : Nv) : Nv := (x.lk (lkOf ns f i)).hi (hiOf ns i)
def linkUp (ns : List Nv) (f : Int) (k : Nat) : List Nv := ns.mapIdx fun i x => if i < k then lnk ns f i x else x
def linkN (ns : List Nv) (f : Int) : List Nv := linkUp ns f ns.length
structure Grp (ns : List Nv) (f lv : Int) (x : Nv) (s e : Nat) (A : List Nat) : Prop where
  lv : x.n.lv = lv + 1
  ks : x.n.ks = A.map (bnd ns)
  vs : x.n.vs = A.map fun (a : Nat) => f + (a : Int)
  hd : ∃ r, A = s :: r
  up : A.Pairwise (· < ·)
  lt : ∀ a ∈ A, a < e
def Abv (ns : List Nv) (f lv : Int) (ms : List Nv) (p : Nat) : Prop :=
  ∃ cuts : List Nat, cuts.length = ms.length + 1 ∧ cuts[0]? = some 0 ∧ cuts[ms.length]? = some p ∧ ∀ i x, ms[i]? = some x → ∃ s e A, cuts[i]? = some s ∧ cuts[i + 1]? = some e ∧ Grp ns f lv x s e A
theorem Abv.nil (ns : List Nv) (f lv : Int) : Abv ns f lv [] 0 := ⟨[0], rfl, rfl, rfl, fun i x h => by simp at h⟩
theorem M.consNil {w0 w : World} {B : Nat} {l : List As} {e : TypeId} {z : Nat} (h : M w0 B w l) : M w0 B w (.row e z (.slice none 0 0) 0 [] :: l) :=
  (M.snocNil h).perm (by simpa using List.perm_append_comm (l₁ := [As.row e z (Value.slice none 0 0) 0 []]) (l₂ := l))
end Go.Proofs.YtajobgmnmbnhiaaGreatDoor.Sap
