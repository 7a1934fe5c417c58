/- WHAT IS PROVED HERE: saplingkeep.linked sets Link and High of the nodes of a row. Conditions: each node but the first has a key; at most 200 nodes; the first page is 0 to 1000. -/
import Derived.Test.YtajobgmnmbnhiaaDoorRows
import Derived.Test.YtajobgmnmbnhiaaDoorXN6N8
import Derived.Test.YtajobgmnmbnhiaaDoorXJ2S3
import Derived.Deep.Slices
import Derived.OpenShut
namespace Go.Proofs.YtajobgmnmbnhiaaDoor.Sap
open Go.RowKit

def Nv.lk (x : Nv) (a : Int) : Nv := { x with n := { x.n with lk := a } }
def Nv.hi (x : Nv) (a : Int) : Nv := { x with n := { x.n with hi := a } }
theorem ncells_lk (ns : List Nv) (k : Nat) (x : Nv) (a : Int) (h : ns[k]? = some x) : (ncells ns).set (k * 5 + 1) (.int .i64 a) = ncells (ns.set k (x.lk a)) := by
  induction ns generalizing k with
  | nil => simp at h
  | cons y r ih =>
    have e : ∀ z : Nv, ncells (z :: r) = z.cells ++ ncells r := fun z => by simp [ncells]
    cases k with
    | zero => simp at h; subst h; rw [List.set_cons_zero, e, e]; rfl
    | succ k =>
      have e2 : ncells (y :: r.set k (x.lk a)) = y.cells ++ ncells (r.set k (x.lk a)) := by simp [ncells]
      rw [List.set_cons_succ, e, e2, ← ih k (by simpa using h), List.set_append_right _ _ (by show 5 ≤ _; omega)]
      rw [show y.cells.length = 5 from rfl, show (k + 1) * 5 + 1 - 5 = k * 5 + 1 by omega]
theorem ncells_hi (ns : List Nv) (k : Nat) (x : Nv) (a : Int) (h : ns[k]? = some x) : (ncells ns).set (k * 5 + 2) (.int .i64 a) = ncells (ns.set k (x.hi a)) := by
  induction ns generalizing k with
  | nil => simp at h
  | cons y r ih =>
    have e : ∀ z : Nv, ncells (z :: r) = z.cells ++ ncells r := fun z => by simp [ncells]
    cases k with
    | zero => simp at h; subst h; rw [List.set_cons_zero, e, e]; rfl
    | succ k =>
      have e2 : ncells (y :: r.set k (x.hi a)) = y.cells ++ ncells (r.set k (x.hi a)) := by simp [ncells]
      rw [List.set_cons_succ, e, e2, ← ih k (by simpa using h), List.set_append_right _ _ (by show 5 ≤ _; omega)]
      rw [show y.cells.length = 5 from rfl, show (k + 1) * 5 + 2 - 5 = k * 5 + 2 by omega]
/-- One node, linked; a row whose first k nodes are linked. -/
def lkOf (ns : List Nv) (f : Int) (i : Nat) : Int := if i + 1 < ns.length then f + i + 1 else -1
def hiOf (ns : List Nv) (i : Nat) : Int := if i + 1 < ns.length then bnd ns (i + 1) else 10000
def lnk (ns : List Nv) (f : Int) (i : Nat) (x : Nv) : Nv := (x.lk (lkOf ns f i)).hi (hiOf ns i)
def linkUp (ns : List Nv) (f : Int) (k : Nat) : List Nv := ns.mapIdx fun i x => if i < k then lnk ns f i x else x
theorem linkUp_zero (ns : List Nv) (f : Int) : linkUp ns f 0 = ns := by
  apply List.ext_getElem?; intro i; simp [linkUp]
theorem linkUp_len (ns : List Nv) (f : Int) (k : Nat) : (linkUp ns f k).length = ns.length := by simp [linkUp]
theorem linkUp_at (ns : List Nv) (f : Int) (k : Nat) (x : Nv) (h : ns[k]? = some x) : (linkUp ns f k)[k]? = some x := by simp [linkUp, h]
theorem linkUp_succ (ns : List Nv) (f : Int) (k : Nat) (x : Nv) (h : ns[k]? = some x) : (linkUp ns f k).set k (lnk ns f k x) = linkUp ns f (k + 1) := by
  apply List.ext_getElem?
  intro i
  have hk : k < ns.length := (List.getElem?_eq_some_iff.1 h).1
  rw [List.getElem?_set]
  by_cases hi : k = i
  · subst hi
    have e : ns[k] = x := (List.getElem?_eq_some_iff.1 h).2
    simp [linkUp, hk, e]
  · rw [if_neg hi]
    simp only [linkUp, List.getElem?_mapIdx]
    congr 1
    funext y
    by_cases h2 : i < k
    · rw [if_pos h2, if_pos (by omega)]
    · rw [if_neg h2, if_neg (by omega)]
def linkN (ns : List Nv) (f : Int) : List Nv := linkUp ns f ns.length
theorem set_set' {α : Type} (l : List α) (i : Nat) (a b : α) : (l.set i a).set i b = l.set i b := by simp
theorem list_set_self {α : Type} {l : List α} {i : Nat} {a : α} (h : l[i]? = some a) : l.set i a = l := by
  apply List.ext_getElem?
  intro j
  rw [List.getElem?_set]
  split
  · rename_i e; subst e; rw [if_pos (List.getElem?_eq_some_iff.1 h).1, h]
  · rfl
theorem M.ne2 {w0 w : World} {B i j b g : Nat} {l : List As} {e1 e2 : TypeId} {z1 z2 n1 n2 m1 m2 c1 c2 : Nat} {xs ys : List Value} (h : M w0 B w l) (hi : l[i]? = some (.row e1 z1 (.slice (some ⟨b, 0, none⟩) m1 c1) n1 xs)) (hj : l[j]? = some (.row e2 z2 (.slice (some ⟨g, 0, none⟩) m2 c2) n2 ys)) (hij : i < j) : b ≠ g := by
  intro e
  subst e
  have hil : i < l.length := (List.getElem?_eq_some_iff.1 hi).1
  have hjl : j < l.length := (List.getElem?_eq_some_iff.1 hj).1
  have hia := (List.getElem?_eq_some_iff.1 hi).2
  have hja := (List.getElem?_eq_some_iff.1 hj).2
  have := List.pairwise_iff_getElem.1 h.apart i j hil hjl hij
  rw [hia, hja] at this
  exact this b rfl rfl
/-- Link and High of one node are stored. -/
theorem M.link2 {w0 w : World} {B ix g n cap k : Nat} {br : As} {l : List As} {cur : List Nv} {x : Nv} (h : M w0 B w (br :: l.set ix (.row 24 5 (.slice (some ⟨g, 0, none⟩) n cap) n (ncells cur)))) (hg : (br :: l.set ix (.row 24 5 (.slice (some ⟨g, 0, none⟩) n cap) n (ncells cur)))[ix + 1]? = some (.row 24 5 (.slice (some ⟨g, 0, none⟩) n cap) n (ncells cur))) (hx : cur[k]? = some x) (a b : Int) :
    M w0 B ((w.setCell ⟨g, k * 5 + 1, none⟩ (.int .i64 a)).setCell ⟨g, k * 5 + 2, none⟩ (.int .i64 b)) (br :: l.set ix (.row 24 5 (.slice (some ⟨g, 0, none⟩) n cap) n (ncells (cur.set k ((x.lk a).hi b))))) := by
  have hl : ix < l.length := by
    have := (List.getElem?_eq_some_iff.1 hg).1
    simpa using this
  have hk : k < cur.length := (List.getElem?_eq_some_iff.1 hx).1
  have s1 := h.storeRow hg (j := k * 5 + 1) (.int .i64 a)
  rw [ncells_lk _ _ _ _ hx, List.set_cons_succ, set_set'] at s1
  have s2 := s1.storeRow (i := ix + 1) (g := g) (by rw [List.getElem?_cons_succ, List.getElem?_set, if_pos rfl, if_pos hl]) (j := k * 5 + 2) (.int .i64 b)
  rw [ncells_hi (cur.set k (x.lk a)) k (x.lk a) b (by rw [List.getElem?_set, if_pos rfl, if_pos hk]), List.set_cons_succ, set_set', set_set'] at s2
  exact s2
theorem M.link4 {w0 w : World} {B ix g n cap k : Nat} {br : As} {l : List As} {cur : List Nv} {x : Nv} (h : M w0 B w (br :: l.set ix (.row 24 5 (.slice (some ⟨g, 0, none⟩) n cap) n (ncells cur)))) (hg : (br :: l.set ix (.row 24 5 (.slice (some ⟨g, 0, none⟩) n cap) n (ncells cur)))[ix + 1]? = some (.row 24 5 (.slice (some ⟨g, 0, none⟩) n cap) n (ncells cur))) (hx : cur[k]? = some x) (a b c d : Int) :
    M w0 B ((((w.setCell ⟨g, k * 5 + 1, none⟩ (.int .i64 a)).setCell ⟨g, k * 5 + 2, none⟩ (.int .i64 b)).setCell ⟨g, k * 5 + 1, none⟩ (.int .i64 c)).setCell ⟨g, k * 5 + 2, none⟩ (.int .i64 d)) (br :: l.set ix (.row 24 5 (.slice (some ⟨g, 0, none⟩) n cap) n (ncells (cur.set k ((x.lk c).hi d))))) := by
  have hl : ix < l.length := by
    have := (List.getElem?_eq_some_iff.1 hg).1
    simpa using this
  have hk : k < cur.length := (List.getElem?_eq_some_iff.1 hx).1
  have s1 := M.link2 h hg hx a b
  have s2 := M.link2 s1 (by rw [List.getElem?_cons_succ, List.getElem?_set, if_pos rfl, if_pos hl]) (x := (x.lk a).hi b) (k := k) (by rw [List.getElem?_set, if_pos rfl, if_pos hk]) c d
  rw [set_set'] at s2
  exact s2

end Go.Proofs.YtajobgmnmbnhiaaDoor.Sap

/- WHAT IS PROVED HERE: saplingkeep.above makes the level above a row of nodes. Conditions: 1 to 200 nodes, each but the first has a key; the sizes are ints. -/
namespace Go.Proofs.YtajobgmnmbnhiaaDoor.Sap
open Go.RowKit

/-- A node that has the children s to e - 1, some of them entered, the first among them. -/
structure Grp (ns : List Nv) (f lv : Int) (x : Nv) (s e : Nat) (A : List Nat) : Prop where
  lv : x.n.lv = lv + 1
  ks : x.n.ks = A.map (bnd ns)
  vs : x.n.vs = A.map fun (a : Nat) => f + (a : Int)
  hd : ∃ r, A = s :: r
  up : A.Pairwise (· < ·)
  lt : ∀ a ∈ A, a < e
/-- The nodes above the first p nodes of a row. -/
def Abv (ns : List Nv) (f lv : Int) (ms : List Nv) (p : Nat) : Prop :=
  ∃ cuts : List Nat, cuts.length = ms.length + 1 ∧ cuts[0]? = some 0 ∧ cuts[ms.length]? = some p ∧ ∀ i x, ms[i]? = some x → ∃ s e A, cuts[i]? = some s ∧ cuts[i + 1]? = some e ∧ Grp ns f lv x s e A
theorem Abv.nil (ns : List Nv) (f lv : Int) : Abv ns f lv [] 0 := ⟨[0], rfl, rfl, rfl, fun i x h => by simp at h⟩
theorem Abv.snoc {ns : List Nv} {f lv : Int} {ms : List Nv} {p q : Nat} {x : Nv} {A : List Nat} (h : Abv ns f lv ms p) (hg : Grp ns f lv x p q A) : Abv ns f lv (ms ++ [x]) q := by
  obtain ⟨cuts, h1, h2, h3, h4⟩ := h
  refine ⟨cuts ++ [q], by simp [h1], ?_, ?_, fun i y hy => ?_⟩
  · rw [List.getElem?_append_left (by omega)]; exact h2
  · rw [List.length_append, List.getElem?_append_right (by simp; omega)]; simp [h1]
  · rcases Nat.lt_or_ge i ms.length with hl | hl
    · rw [List.getElem?_append_left hl] at hy
      obtain ⟨s, e, A, c1, c2, c3⟩ := h4 i y hy
      exact ⟨s, e, A, by rw [List.getElem?_append_left (by omega)]; exact c1, by rw [List.getElem?_append_left (by omega)]; exact c2, c3⟩
    · rw [List.getElem?_append_right hl] at hy
      have hi : i = ms.length := by
        rcases Nat.lt_or_ge (i - ms.length) 1 with h' | h'
        · omega
        · rw [List.getElem?_eq_none (by simpa using h')] at hy; cases hy
      subst hi
      simp at hy
      subst hy
      exact ⟨p, q, A, by rw [List.getElem?_append_left (by omega)]; exact h3, by rw [List.getElem?_append_right (by omega)]; simp [h1], hg⟩

theorem M.push2 {w0 w : World} {B : Nat} {b k v o c : As} {l : List As} (h : M w0 B w (b :: k :: v :: o :: (l ++ [c]))) : M w0 B w (o :: ((l ++ [k, v]) ++ [c])) := by
  refine (M.push h).perm ?_
  refine List.Perm.cons _ ?_
  rw [List.append_assoc, List.append_assoc]
  exact List.Perm.append_left _ List.perm_append_comm
theorem map_snoc1 (ns : List Nv) (A : List Nat) (s : Nat) : (A ++ [s]).map (bnd ns) = A.map (bnd ns) ++ [bnd ns s] := by simp
theorem map_snoc2 (f : Int) (A : List Nat) (s : Nat) : ((A ++ [s]).map fun (a : Nat) => f + (a : Int)) = (A.map fun (a : Nat) => f + (a : Int)) ++ [f + (s : Int)] := by simp
/-- What above answers. -/
def AboveR (ns : List Nv) (f : Int) (w w' : World) (e : Ending) : Prop :=
  ∃ v ms, e = .returned v ∧ M w w.heap.size w' (.row 24 5 v ms.length (ncells ms) :: nrows ms) ∧ Abv ns f ((ns[0]?.map fun x => x.n.lv).getD 0) ms ns.length
theorem M.consNil {w0 w : World} {B : Nat} {l : List As} {e : TypeId} {z : Nat} (h : M w0 B w l) : M w0 B w (.row e z (.slice none 0 0) 0 [] :: l) :=
  (M.snocNil h).perm (by simpa using List.perm_append_comm (l₁ := [As.row e z (Value.slice none 0 0) 0 []]) (l₂ := l))
set_option maxRecDepth 100000 in
set_option maxHeartbeats 800000 in
theorem pick_big (c n : Int) (w : World) (h : I64 c) (hn1 : 1 ≤ n) (hn2 : n ≤ 1048576) :
    Calls Tryd.prog 36 #[.int .i64 c, .int .i64 n] w fun e w' => (∃ r, e = .returned (.int .i64 r) ∧ 0 ≤ r ∧ r < n) ∧ w' = w := by
  obtain ⟨h0, h1⟩ := h
  have hb := pickV_bd c n hn1
  have hnz : (n == 0) = false := by simp; omega
  have HBD := hideIt hb
  clear hb
  by_cases hc : c < 0
  · have HP : Hid (pickV c n = -(c + 1).tmod n) := by unfold Hid pickV; rw [if_pos hc, ← Int.neg_tmod, Int.tmod_eq_emod_of_nonneg (by omega)]
    go_enter Tryd.func36, Tryd.ntmps36
    go_wp2
    go_ret
    exact ⟨⟨_, ret_int HP.out.symm, HBD.out⟩, rfl⟩
  · have HP : Hid (pickV c n = c % n) := by unfold Hid pickV; rw [if_neg hc]
    go_enter Tryd.func36, Tryd.ntmps36
    go_wp2
    go_ret
    exact ⟨⟨_, ret_int HP.out.symm, HBD.out⟩, rfl⟩

end Go.Proofs.YtajobgmnmbnhiaaDoor.Sap

/- WHAT IS PROVED HERE: a script that is handed in lies in memory as a list of turns; where what is handed in is of bulk at most 1048576, it has at most as many turns. Conditions: named at each theorem. -/
namespace Go.Proofs.YtajobgmnmbnhiaaDoor.Sap
open Go.RowKit Go.ChangeShapes Go.WideShapes Go.Deep

theorem cellsTurn : Tryd.prog.cellsOf 61 = 5 := by kernel_rfl
theorem cellsOp : Tryd.prog.cellsOf 37 = 3 := by kernel_rfl
theorem cellsI : Tryd.prog.cellsOf 3 = 1 := by kernel_rfl
theorem i64_of {n : Int} (h : (Lit.int .i64 n).wf = true) : I64 n := by
  simpa [I64, Lit.wf, IntKind.min, IntKind.max, IntKind.signed, IntKind.bits] using h

theorem list5s {α : Type} {l : List α} (h : l.length = 5) : ∃ a b c d e, l = [a, b, c, d, e] := by
  match l, h with
  | [a, b, c, d, e], _ => exact ⟨a, b, c, d, e, rfl⟩
theorem list3s {α : Type} {l : List α} (h : l.length = 3) : ∃ a b c, l = [a, b, c] := by
  match l, h with
  | [a, b, c], _ => exact ⟨a, b, c, rfl⟩

/-- The five cells of a turn. -/
theorem turn_in {H : Type} {enc : TypeId × Value → H} {W : World} {base : Nat} {fuel : Nat} {cs : List Value} {x : DataW H × List MemPlace} {sp : Nat → Bool}
    (h : DataW.trod enc Tryd.prog W base sp true fuel 61 cs = some x) : ∃ t : Tn, t.ok ∧ cs = [.int .i64 t.cl, .int .i64 t.k, .int .i64 t.key, .int .i64 t.v, .int .i64 t.mv] := by
  obtain ⟨xs, m, -, -, hl, hlen, hf⟩ := DataW.trod_struct Tryd.underlying61 h
  rw [cellsTurn] at hl
  obtain ⟨c0, c1, c2, c3, c4, rfl⟩ := list5s hl
  obtain ⟨y0, y1, y2, rfl⟩ := list3s (l := xs) hlen
  have f0 : DataW.trod enc Tryd.prog W base sp true m 3 (List.take (Tryd.prog.cellsOf 3) [c0, c1, c2, c3, c4]) = some y0 := hf 0 _ rfl
  have f1 : DataW.trod enc Tryd.prog W base sp true m 37 (List.take (Tryd.prog.cellsOf 37) [c1, c2, c3, c4]) = some y1 := hf 1 _ rfl
  have f2 : DataW.trod enc Tryd.prog W base sp true m 3 (List.take (Tryd.prog.cellsOf 3) [c4]) = some y2 := hf 2 _ rfl
  rw [cellsI] at f0 f2
  rw [cellsOp] at f1
  obtain ⟨cl, e0, -, w0⟩ := DataW.trod_int Tryd.underlying3 f0
  obtain ⟨mv, e4, -, w4⟩ := DataW.trod_int Tryd.underlying3 f2
  obtain ⟨zs, m2, -, -, -, hlen2, hg⟩ := DataW.trod_struct Tryd.underlying37 f1
  obtain ⟨z0, z1, z2, rfl⟩ := list3s (l := zs) hlen2
  have g0 : DataW.trod enc Tryd.prog W base sp true m2 3 (List.take (Tryd.prog.cellsOf 3) [c1, c2, c3]) = some z0 := hg 0 _ rfl
  have g1 : DataW.trod enc Tryd.prog W base sp true m2 3 (List.take (Tryd.prog.cellsOf 3) [c2, c3]) = some z1 := hg 1 _ rfl
  have g2 : DataW.trod enc Tryd.prog W base sp true m2 3 (List.take (Tryd.prog.cellsOf 3) [c3]) = some z2 := hg 2 _ rfl
  rw [cellsI] at g0 g1 g2
  obtain ⟨k, e1, -, w1⟩ := DataW.trod_int Tryd.underlying3 g0
  obtain ⟨key, e2, -, w2⟩ := DataW.trod_int Tryd.underlying3 g1
  obtain ⟨v, e3, -, w3⟩ := DataW.trod_int Tryd.underlying3 g2
  simp only [List.take_succ_cons, List.take_zero, List.cons.injEq, and_true] at e0 e1 e2 e3 e4
  subst e0 e1 e2 e3 e4
  exact ⟨⟨cl, k, key, v, mv⟩, ⟨i64_of w0, i64_of w1, i64_of w2, i64_of w3, i64_of w4⟩, rfl⟩

/-- A script that is handed in. -/
theorem script_in {H : Type} {enc : TypeId × Value → H} {W : World} {base : Nat} {fuel : Nat} {c : Value} {x : DataW H × List MemPlace} {sp : Nat → Bool}
    (h : DataW.trod enc Tryd.prog W base sp true fuel 48 [c] = some x) :
    ∃ ts : List Tn, TRd W c ts ∧ (∀ t ∈ ts, t.ok) ∧ (ts = [] ∨ ∃ e s, x.1 = .slice e s ∧ ts.length = e.length) := by
  rcases open_slice Tryd.underlying48 h with ⟨hc, -⟩ | ⟨a, len, cap, m, n, D, Pl, hc, -, hlc, -, hm, hx, hel⟩
  · simp only [List.cons.injEq, and_true] at hc
    subst hc
    exact ⟨[], ⟨none, 0, rfl, fun hp => absurd hp (by decide)⟩, fun t ht => (by cases ht), Or.inl rfl⟩
  · simp only [List.cons.injEq, and_true] at hc
    subst hc
    have hlm : len ≤ m := by rw [hm]; split <;> omega
    haveI : Inhabited Tn := ⟨⟨0, 0, 0, 0, 0⟩⟩
    obtain ⟨f, hf⟩ := choose_lt (α := Tn) (n := len) (p := fun i t => t.ok ∧ W.cell? (a.add (i * 5)) = some (.int .i64 t.cl) ∧ W.cell? (a.add (i * 5 + 1)) = some (.int .i64 t.k) ∧ W.cell? (a.add (i * 5 + 2)) = some (.int .i64 t.key) ∧ W.cell? (a.add (i * 5 + 3)) = some (.int .i64 t.v) ∧ W.cell? (a.add (i * 5 + 4)) = some (.int .i64 t.mv)) (fun i hi => by
      obtain ⟨cs', h1, h2⟩ := hel i (by omega)
      rw [cellsTurn] at h1
      obtain ⟨-, -, hcell⟩ := World.cells?_some h1
      obtain ⟨t, hok, rfl⟩ := turn_in h2
      have e0 := hcell 0 (by omega)
      have e1 := hcell 1 (by omega)
      have e2 := hcell 2 (by omega)
      have e3 := hcell 3 (by omega)
      have e4 := hcell 4 (by omega)
      rw [add_add] at e0 e1 e2 e3 e4
      exact ⟨t, hok, e0, e1, e2, e3, e4⟩)
    refine ⟨(List.range len).map f, ⟨some a, cap, by rw [List.length_map, List.length_range], fun hp => ?_⟩, fun t ht => ?_, Or.inr ⟨_, _, by rw [hx], by rw [List.length_map, List.length_map]⟩⟩
    · rw [List.length_map, List.length_range] at hp
      obtain ⟨b, off, spot⟩ := a
      have hspot : spot = none := by simpa [Addr.add] using World.cell?_spot (hf 0 hp).2.1
      subst hspot
      refine ⟨b, off, rfl, fun j t hj => ?_⟩
      have hjl : j < len := by have := (List.getElem?_eq_some_iff.1 hj).1; rw [List.length_map, List.length_range] at this; exact this
      obtain rfl : f j = t := by rw [List.getElem?_map, List.getElem?_range hjl] at hj; exact Option.some.inj hj
      have := (hf j hjl).2
      simp only [add_plain] at this
      simpa only [Nat.add_assoc] using this
    · obtain ⟨j, hj, rfl⟩ := List.mem_map.1 ht
      exact (hf j (List.mem_range.1 hj)).1

/-- How many turns, where the bulk is bound. -/
theorem bulk_one {H : Type} (d : DataW H) : 1 ≤ Rows.uptoBulk d := by
  cases d with
  | lit l => cases l <;> simp [Rows.uptoBulk]
  | nil => simp [Rows.uptoBulk]
  | ptr d => simp [Rows.uptoBulk]
  | slice elems spare => simp [Rows.uptoBulk]
  | agg parts => simp [Rows.uptoBulk]
  | iface t d => simp [Rows.uptoBulk]
  | map entries => simp [Rows.uptoBulk]
  | held h => simp [Rows.uptoBulk]
theorem bulk_len {H : Type} (l : List (DataW H)) : l.length ≤ Rows.uptoBulkAll l := by
  induction l with
  | nil => simp [Rows.uptoBulkAll]
  | cons x r ih => have := bulk_one x; simp only [Rows.uptoBulkAll, List.length_cons]; omega
theorem bulk_slice {H : Type} {d : DataW H} {r : List (DataW H)} {e s : List (DataW H)} (hd : d = .slice e s) (hk : Rows.uptoSmall H (d :: r) = true) : e.length ≤ 1048576 := by
  have h1 := of_decide_eq_true hk
  have h2 := bulk_len e
  rw [hd] at h1
  simp only [Rows.uptoBulkAll, Rows.uptoBulk] at h1
  omega
end Go.Proofs.YtajobgmnmbnhiaaDoor.Sap
