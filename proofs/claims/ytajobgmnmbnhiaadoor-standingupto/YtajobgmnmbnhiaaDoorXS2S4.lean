/- WHAT IS PROVED HERE: saplingkeep.leaves cuts rising keys into leaves. Conditions: at most 120 keys; the sizes are ints. -/
import Derived.Test.YtajobgmnmbnhiaaDoorXS1T9
import Derived.Test.YtajobgmnmbnhiaaDoorR3
import Derived.Deep.AppendLies
import Derived.Deep.RegionLaw
namespace Go.Proofs.YtajobgmnmbnhiaaDoor.Sap
open Go.RowKit

theorem infoNode : (Tryd.prog.info? 24).map (fun i => (i.zero, i.size, i.bytes)) = some (some (.agg #[.int .i64 0, .int .i64 0, .int .i64 0, .slice none 0 0, .slice none 0 0]), 5, 72) := by kernel_rfl

/-- A node, and the two slices that it has in memory. -/
structure Nv where
  n : Nd
  kv : Value
  vv : Value
def Nv.cells (x : Nv) : List Value := [.int .i64 x.n.lv, .int .i64 x.n.lk, .int .i64 x.n.hi, x.kv, x.vv]
def Nv.rows (x : Nv) : List As := [.row 3 1 x.kv x.n.ks.length (ints x.n.ks), .row 3 1 x.vv x.n.vs.length (ints x.n.vs)]
def ncells (l : List Nv) : List Value := l.flatMap Nv.cells
def nrows (l : List Nv) : List As := l.flatMap Nv.rows
theorem ncells_snoc (l : List Nv) (x : Nv) : ncells (l ++ [x]) = ncells l ++ x.cells := by simp [ncells]
theorem nrows_snoc (l : List Nv) (x : Nv) : nrows (l ++ [x]) = nrows l ++ x.rows := by simp [nrows]
/-- Leaves in the making. -/
def LeafL (ns : List Nv) : Prop := ∀ x ∈ ns, x.n.lv = 0 ∧ x.n.ks ≠ [] ∧ x.n.ks.length = x.n.vs.length
def keysOf (ns : List Nv) : List Int := (ns.map fun x => x.n.ks).flatten
def valsOf (ns : List Nv) : List Int := (ns.map fun x => x.n.vs).flatten

theorem M.lies {w0 w w' : World} {B i g cap : Nat} {l : List As} {e : TypeId} {z n m : Nat} {v : Value} {xs ys : List Value} (h : M w0 B w l) (hi : l[i]? = some (.row e z v n xs)) (ho : w'.ownsRow B e z (.slice (some ⟨g, 0, none⟩) m cap) m ys) (hg : w.grownBy w' v.ownBlock)
    (hat : v.ownBlock = some g ∨ g = w.heap.size) : M w0 B w' (l.set i (.row e z (.slice (some ⟨g, 0, none⟩) m cap) m ys)) :=
  h.append hi ho hg (hat.imp (fun e => e.symm) (fun e => by rw [e]; rfl))
theorem keysOf_snoc (ns : List Nv) (x : Nv) : keysOf (ns ++ [x]) = keysOf ns ++ x.n.ks := by simp [keysOf]
theorem leafL_snoc {ns : List Nv} {L ks vs : List Int} {kv vv : Value} {p t s : Nat} (h : LeafL ns) (hk : keysOf ns = L.take p) (h0 : 1 ≤ ks.length) (hl : ks.length = vs.length) (he : ks = (L.drop p).take t) (hs : s = p + t) :
    LeafL (ns ++ [⟨⟨0, 0, 0, ks, vs⟩, kv, vv⟩]) ∧ keysOf (ns ++ [⟨⟨0, 0, 0, ks, vs⟩, kv, vv⟩]) = L.take s := by
  refine ⟨fun x hx => ?_, ?_⟩
  · rcases List.mem_append.1 hx with hx | hx
    · exact h x hx
    · rw [List.mem_singleton] at hx; subst hx
      exact ⟨rfl, fun e => by simp only at e; rw [e] at h0; simp at h0, hl⟩
  · rw [keysOf_snoc, hk, hs, List.take_add, he]
/-- The leaf that is being made comes to the others. -/
theorem M.push {w0 w : World} {B : Nat} {b : As} {k v : As} {o : As} {l : List As} (h : M w0 B w (b :: k :: v :: o :: l)) : M w0 B w (o :: (l ++ [k, v])) := by
  have h1 : M w0 B w (k :: v :: o :: l) := h.sub (List.sublist_cons_self _ _)
  refine h1.perm ?_
  have e1 : (o :: (l ++ [k, v])).Perm ((o :: l) ++ [k, v]) := by simp
  exact e1.trans List.perm_append_comm


/-- What leaves answers: the leaves, and how they hold the keys. -/
def LeavesR (L : List Int) (w w' : World) (e : Ending) : Prop :=
  ∃ v ns, e = .returned v ∧ M w w.heap.size w' (.row 24 5 v ns.length (ncells ns) :: nrows ns) ∧ keysOf ns = L ∧ ((LeafL ns ∧ ns ≠ []) ∨ (L = [] ∧ ns = [⟨⟨0, 0, 0, [], []⟩, .slice none 0 0, .slice none 0 0⟩]))

end Go.Proofs.YtajobgmnmbnhiaaDoor.Sap

/- WHAT IS PROVED HERE: saplingkeep.bounds tells where each node of a row begins. Conditions: each node but the first has a key; at most 200 nodes. -/
namespace Go.Proofs.YtajobgmnmbnhiaaDoor.Sap
open Go.RowKit

/-- The cells of one node among many. -/
theorem ncells_at (ns : List Nv) (i c : Nat) (hc : c < 5) : (ncells ns)[i * 5 + c]? = (ns[i]?).bind fun x => x.cells[c]? := by
  induction ns generalizing i with
  | nil => simp [ncells]
  | cons x r ih =>
    have e : ncells (x :: r) = x.cells ++ ncells r := by simp [ncells]
    have hx : x.cells.length = 5 := rfl
    rw [e]
    cases i with
    | zero => rw [List.getElem?_append_left (by omega)]; simp
    | succ i =>
      rw [List.getElem?_append_right (by omega), hx, show (i + 1) * 5 + c - 5 = i * 5 + c by omega, ih i]
      simp
theorem ncells_len (ns : List Nv) : (ncells ns).length = ns.length * 5 := by
  induction ns with
  | nil => rfl
  | cons x r ih =>
    have e : ncells (x :: r) = x.cells ++ ncells r := by simp [ncells]
    rw [e, List.length_append, ih, show x.cells.length = 5 from rfl, List.length_cons]; omega
/-- A row of nodes that is there, with all their lists. -/
structure NS (w : World) (B : Nat) (v : Value) (ns : List Nv) : Prop where
  row : As.holds w B (.row 24 5 v ns.length (ncells ns))
  rows : ∀ r ∈ nrows ns, r.holds w B
theorem M.ns {w0 w : World} {B : Nat} {l : List As} {v : Value} {ns : List Nv} (h : M w0 B w l) (h1 : .row 24 5 v ns.length (ncells ns) ∈ l) (h2 : ∀ r ∈ nrows ns, r ∈ l) : NS w B v ns := ⟨h.holds _ h1, fun r hr => h.holds r (h2 r hr)⟩
theorem NS.below {w w' : World} {B : Nat} {v : Value} {ns : List Nv} (h : NS w B v ns) (hb : Below w.heap.size w w') : NS w' B v ns :=
  ⟨h.row.kept fun k hk => hb.block k (h.row.lt hk).2, fun r hr => (h.rows r hr).kept fun k hk => hb.block k ((h.rows r hr).lt hk).2⟩
theorem NS.form {w : World} {B : Nat} {v : Value} {ns : List Nv} (h : NS w B v ns) (hn : 0 < ns.length) : ∃ g cap, v = .slice (some ⟨g, 0, none⟩) ns.length cap := As.form h.row hn
theorem NS.at {w : World} {B g cap : Nat} {ns : List Nv} (h : NS w B (.slice (some ⟨g, 0, none⟩) ns.length cap) ns) (i : Nat) (x : Nv) (hx : ns[i]? = some x) :
    (w.cell? ⟨g, i * 5, none⟩ = some (.int .i64 x.n.lv) ∧ w.cell? ⟨g, i * 5 + 1, none⟩ = some (.int .i64 x.n.lk) ∧ w.cell? ⟨g, i * 5 + 2, none⟩ = some (.int .i64 x.n.hi) ∧ w.cell? ⟨g, i * 5 + 3, none⟩ = some x.kv ∧ w.cell? ⟨g, i * 5 + 4, none⟩ = some x.vv) ∧ (∀ j, w.frozen? ⟨g, j, none⟩ = false) ∧ Rd w x.kv x.n.ks ∧ Rd w x.vv x.n.vs := by
  have hil : i < ns.length := (List.getElem?_eq_some_iff.1 hx).1
  have key : ∀ c, c < 5 → w.cell? ⟨g, i * 5 + c, none⟩ = x.cells[c]? := by
    intro c hc
    rw [World.ownsRow.cellAt h.row _ (by omega), ncells_at _ _ _ hc, hx]; rfl
  have hmem : x ∈ ns := List.mem_of_getElem? hx
  have hr : ∀ r ∈ x.rows, r.holds w B := fun r hr => h.rows r (List.mem_flatMap.2 ⟨x, hmem, hr⟩)
  refine ⟨⟨key 0 (by omega), key 1 (by omega), key 2 (by omega), key 3 (by omega), key 4 (by omega)⟩, fun j => World.ownsRow.frozenAt h.row j, ?_, ?_⟩
  · have h1 : As.holds w B (.row 3 1 x.kv x.n.ks.length (ints x.n.ks)) := hr _ (by simp [Nv.rows])
    exact owns_rd h1
  · have h1 : As.holds w B (.row 3 1 x.vv x.n.vs.length (ints x.n.vs)) := hr _ (by simp [Nv.rows])
    exact owns_rd h1

/-- Where each node begins: the first at 0, each other at its first key. -/
def bnd (ns : List Nv) (i : Nat) : Int := if i = 0 then 0 else ((ns[i]?).map fun x => x.n.ks[0]?.getD 0).getD 0
def bnds (ns : List Nv) : List Int := (List.range ns.length).map (bnd ns)
theorem bnds_len (ns : List Nv) : (bnds ns).length = ns.length := by simp [bnds]
theorem bnds_at (ns : List Nv) (i : Nat) (h : i < ns.length) : (bnds ns)[i]?.getD 0 = bnd ns i := by simp [bnds, h]
theorem bnds_snoc (ns : List Nv) (k : Nat) (h : k < ns.length) : (bnds ns).take (k + 1) = (bnds ns).take k ++ [bnd ns k] := by
  rw [List.take_add_one]; simp [bnds, h]
theorem NS.form' {w : World} {B n cap : Nat} {ao : Option Addr} {ns : List Nv} (h : NS w B (.slice ao n cap) ns) (hn : 0 < n) : ∃ g cap', (Value.slice ao n cap) = .slice (some ⟨g, 0, none⟩) n cap' := by
  rcases h.row.2 with ⟨h1, h0⟩ | ⟨g, c, cur, e, -⟩
  · cases h1; omega
  · cases e; exact ⟨g, cap, rfl⟩
theorem NS.at' {w : World} {B g n cap : Nat} {ns : List Nv} (h : NS w B (.slice (some ⟨g, 0, none⟩) n cap) ns) (i : Nat) (x : Nv) (hx : ns[i]? = some x) :
    (w.cell? ⟨g, i * 5, none⟩ = some (.int .i64 x.n.lv) ∧ w.cell? ⟨g, i * 5 + 1, none⟩ = some (.int .i64 x.n.lk) ∧ w.cell? ⟨g, i * 5 + 2, none⟩ = some (.int .i64 x.n.hi) ∧ w.cell? ⟨g, i * 5 + 3, none⟩ = some x.kv ∧ w.cell? ⟨g, i * 5 + 4, none⟩ = some x.vv) ∧ (∀ j, w.frozen? ⟨g, j, none⟩ = false) ∧ Rd w x.kv x.n.ks ∧ Rd w x.vv x.n.vs := by
  have hl : n = ns.length := by
    rcases h.row.2 with ⟨h1, h0⟩ | ⟨g, c, cur, e, -⟩
    · cases h1
    · cases e; rfl
  subst hl
  exact h.at i x hx

end Go.Proofs.YtajobgmnmbnhiaaDoor.Sap

/- WHAT IS PROVED HERE: saplingkeep.linked sets Link and High of the nodes of a row. Conditions: each node but the first has a key; at most 200 nodes; the first page is 0 to 1000. -/
namespace Go.Proofs.YtajobgmnmbnhiaaDoor.Sap
open Go.RowKit

def Nv.lk (x : Nv) (a : Int) : Nv := { x with n := { x.n with lk := a } }
def Nv.hi (x : Nv) (a : Int) : Nv := { x with n := { x.n with hi := a } }
theorem ncells_lk (ns : List Nv) (k : Nat) (x : Nv) (a : Int) (h : ns[k]? = some x) : (ncells ns).set (k * 5 + 1) (.int .i64 a) = ncells (ns.set k (x.lk a)) := by
  induction ns generalizing k with
  | nil => simp at h
  | cons y r ih =>
    have e : ∀ z : Nv, ncells (z :: r) = z.cells ++ ncells r := fun z => by simp [ncells]
    cases k with
    | zero => simp at h; subst h; rw [List.set_cons_zero, e, e]; rfl
    | succ k =>
      have e2 : ncells (y :: r.set k (x.lk a)) = y.cells ++ ncells (r.set k (x.lk a)) := by simp [ncells]
      rw [List.set_cons_succ, e, e2, ← ih k (by simpa using h), List.set_append_right _ _ (by show 5 ≤ _; omega)]
      rw [show y.cells.length = 5 from rfl, show (k + 1) * 5 + 1 - 5 = k * 5 + 1 by omega]
theorem ncells_hi (ns : List Nv) (k : Nat) (x : Nv) (a : Int) (h : ns[k]? = some x) : (ncells ns).set (k * 5 + 2) (.int .i64 a) = ncells (ns.set k (x.hi a)) := by
  induction ns generalizing k with
  | nil => simp at h
  | cons y r ih =>
    have e : ∀ z : Nv, ncells (z :: r) = z.cells ++ ncells r := fun z => by simp [ncells]
    cases k with
    | zero => simp at h; subst h; rw [List.set_cons_zero, e, e]; rfl
    | succ k =>
      have e2 : ncells (y :: r.set k (x.hi a)) = y.cells ++ ncells (r.set k (x.hi a)) := by simp [ncells]
      rw [List.set_cons_succ, e, e2, ← ih k (by simpa using h), List.set_append_right _ _ (by show 5 ≤ _; omega)]
      rw [show y.cells.length = 5 from rfl, show (k + 1) * 5 + 2 - 5 = k * 5 + 2 by omega]
/-- One node, linked; a row whose first k nodes are linked. -/
def lkOf (ns : List Nv) (f : Int) (i : Nat) : Int := if i + 1 < ns.length then f + i + 1 else -1
def hiOf (ns : List Nv) (i : Nat) : Int := if i + 1 < ns.length then bnd ns (i + 1) else 10000
def lnk (ns : List Nv) (f : Int) (i : Nat) (x : Nv) : Nv := (x.lk (lkOf ns f i)).hi (hiOf ns i)
def linkUp (ns : List Nv) (f : Int) (k : Nat) : List Nv := ns.mapIdx fun i x => if i < k then lnk ns f i x else x
theorem linkUp_zero (ns : List Nv) (f : Int) : linkUp ns f 0 = ns := by
  apply List.ext_getElem?; intro i; simp [linkUp]
theorem linkUp_len (ns : List Nv) (f : Int) (k : Nat) : (linkUp ns f k).length = ns.length := by simp [linkUp]
theorem linkUp_at (ns : List Nv) (f : Int) (k : Nat) (x : Nv) (h : ns[k]? = some x) : (linkUp ns f k)[k]? = some x := by simp [linkUp, h]
theorem linkUp_succ (ns : List Nv) (f : Int) (k : Nat) (x : Nv) (h : ns[k]? = some x) : (linkUp ns f k).set k (lnk ns f k x) = linkUp ns f (k + 1) := by
  apply List.ext_getElem?
  intro i
  have hk : k < ns.length := (List.getElem?_eq_some_iff.1 h).1
  rw [List.getElem?_set]
  by_cases hi : k = i
  · subst hi
    have e : ns[k] = x := (List.getElem?_eq_some_iff.1 h).2
    simp [linkUp, hk, e]
  · rw [if_neg hi]
    simp only [linkUp, List.getElem?_mapIdx]
    congr 1
    funext y
    by_cases h2 : i < k
    · rw [if_pos h2, if_pos (by omega)]
    · rw [if_neg h2, if_neg (by omega)]
def linkN (ns : List Nv) (f : Int) : List Nv := linkUp ns f ns.length
theorem set_set' {α : Type} (l : List α) (i : Nat) (a b : α) : (l.set i a).set i b = l.set i b := by simp
theorem list_set_self {α : Type} {l : List α} {i : Nat} {a : α} (h : l[i]? = some a) : l.set i a = l := by
  apply List.ext_getElem?
  intro j
  rw [List.getElem?_set]
  split
  · rename_i e; subst e; rw [if_pos (List.getElem?_eq_some_iff.1 h).1, h]
  · rfl
theorem M.ne2 {w0 w : World} {B i j b g : Nat} {l : List As} {e1 e2 : TypeId} {z1 z2 n1 n2 m1 m2 c1 c2 : Nat} {xs ys : List Value} (h : M w0 B w l) (hi : l[i]? = some (.row e1 z1 (.slice (some ⟨b, 0, none⟩) m1 c1) n1 xs)) (hj : l[j]? = some (.row e2 z2 (.slice (some ⟨g, 0, none⟩) m2 c2) n2 ys)) (hij : i < j) : b ≠ g := by
  intro e
  subst e
  have hil : i < l.length := (List.getElem?_eq_some_iff.1 hi).1
  have hjl : j < l.length := (List.getElem?_eq_some_iff.1 hj).1
  have hia := (List.getElem?_eq_some_iff.1 hi).2
  have hja := (List.getElem?_eq_some_iff.1 hj).2
  have := List.pairwise_iff_getElem.1 h.apart i j hil hjl hij
  rw [hia, hja] at this
  exact this b rfl rfl
/-- Link and High of one node are stored. -/
theorem M.link2 {w0 w : World} {B ix g n cap k : Nat} {br : As} {l : List As} {cur : List Nv} {x : Nv} (h : M w0 B w (br :: l.set ix (.row 24 5 (.slice (some ⟨g, 0, none⟩) n cap) n (ncells cur)))) (hg : (br :: l.set ix (.row 24 5 (.slice (some ⟨g, 0, none⟩) n cap) n (ncells cur)))[ix + 1]? = some (.row 24 5 (.slice (some ⟨g, 0, none⟩) n cap) n (ncells cur))) (hx : cur[k]? = some x) (a b : Int) :
    M w0 B ((w.setCell ⟨g, k * 5 + 1, none⟩ (.int .i64 a)).setCell ⟨g, k * 5 + 2, none⟩ (.int .i64 b)) (br :: l.set ix (.row 24 5 (.slice (some ⟨g, 0, none⟩) n cap) n (ncells (cur.set k ((x.lk a).hi b))))) := by
  have hl : ix < l.length := by
    have := (List.getElem?_eq_some_iff.1 hg).1
    simpa using this
  have hk : k < cur.length := (List.getElem?_eq_some_iff.1 hx).1
  have s1 := h.storeRow hg (j := k * 5 + 1) (.int .i64 a)
  rw [ncells_lk _ _ _ _ hx, List.set_cons_succ, set_set'] at s1
  have s2 := s1.storeRow (i := ix + 1) (g := g) (by rw [List.getElem?_cons_succ, List.getElem?_set, if_pos rfl, if_pos hl]) (j := k * 5 + 2) (.int .i64 b)
  rw [ncells_hi (cur.set k (x.lk a)) k (x.lk a) b (by rw [List.getElem?_set, if_pos rfl, if_pos hk]), List.set_cons_succ, set_set', set_set'] at s2
  exact s2
theorem M.link4 {w0 w : World} {B ix g n cap k : Nat} {br : As} {l : List As} {cur : List Nv} {x : Nv} (h : M w0 B w (br :: l.set ix (.row 24 5 (.slice (some ⟨g, 0, none⟩) n cap) n (ncells cur)))) (hg : (br :: l.set ix (.row 24 5 (.slice (some ⟨g, 0, none⟩) n cap) n (ncells cur)))[ix + 1]? = some (.row 24 5 (.slice (some ⟨g, 0, none⟩) n cap) n (ncells cur))) (hx : cur[k]? = some x) (a b c d : Int) :
    M w0 B ((((w.setCell ⟨g, k * 5 + 1, none⟩ (.int .i64 a)).setCell ⟨g, k * 5 + 2, none⟩ (.int .i64 b)).setCell ⟨g, k * 5 + 1, none⟩ (.int .i64 c)).setCell ⟨g, k * 5 + 2, none⟩ (.int .i64 d)) (br :: l.set ix (.row 24 5 (.slice (some ⟨g, 0, none⟩) n cap) n (ncells (cur.set k ((x.lk c).hi d))))) := by
  have hl : ix < l.length := by
    have := (List.getElem?_eq_some_iff.1 hg).1
    simpa using this
  have hk : k < cur.length := (List.getElem?_eq_some_iff.1 hx).1
  have s1 := M.link2 h hg hx a b
  have s2 := M.link2 s1 (by rw [List.getElem?_cons_succ, List.getElem?_set, if_pos rfl, if_pos hl]) (x := (x.lk a).hi b) (k := k) (by rw [List.getElem?_set, if_pos rfl, if_pos hk]) c d
  rw [set_set'] at s2
  exact s2

end Go.Proofs.YtajobgmnmbnhiaaDoor.Sap
