/- WHAT IS PROVED HERE: saplingkeep.leaves cuts rising keys into leaves. Conditions: at most 120 keys; the sizes are ints. -/
import Derived.Test.YtajobgmnmbnhiaaDoorXB1T9
import Derived.Test.YtajobgmnmbnhiaaDoorR3
import Derived.Deep.AppendLies
import Derived.Deep.RegionLaw
namespace Go.Proofs.YtajobgmnmbnhiaaDoor.Sap
open Go.RowKit

theorem infoNode : (Tryd.prog.info? 24).map (fun i => (i.zero, i.size, i.bytes)) = some (some (.agg #[.int .i64 0, .int .i64 0, .int .i64 0, .slice none 0 0, .slice none 0 0]), 5, 72) := by kernel_rfl

/-- A node, and the two slices that it has in memory. -/
structure Nv where
  n : Nd
  kv : Value
  vv : Value
def Nv.cells (x : Nv) : List Value := [.int .i64 x.n.lv, .int .i64 x.n.lk, .int .i64 x.n.hi, x.kv, x.vv]
def Nv.rows (x : Nv) : List As := [.row 3 1 x.kv x.n.ks.length (ints x.n.ks), .row 3 1 x.vv x.n.vs.length (ints x.n.vs)]
def ncells (l : List Nv) : List Value := l.flatMap Nv.cells
def nrows (l : List Nv) : List As := l.flatMap Nv.rows
theorem ncells_snoc (l : List Nv) (x : Nv) : ncells (l ++ [x]) = ncells l ++ x.cells := by simp [ncells]
theorem nrows_snoc (l : List Nv) (x : Nv) : nrows (l ++ [x]) = nrows l ++ x.rows := by simp [nrows]
/-- Leaves in the making. -/
def LeafL (ns : List Nv) : Prop := ∀ x ∈ ns, x.n.lv = 0 ∧ x.n.ks ≠ [] ∧ x.n.ks.length = x.n.vs.length
def keysOf (ns : List Nv) : List Int := (ns.map fun x => x.n.ks).flatten
def valsOf (ns : List Nv) : List Int := (ns.map fun x => x.n.vs).flatten

theorem M.lies {w0 w w' : World} {B i g cap : Nat} {l : List As} {e : TypeId} {z n m : Nat} {v : Value} {xs ys : List Value} (h : M w0 B w l) (hi : l[i]? = some (.row e z v n xs)) (ho : w'.ownsRow B e z (.slice (some ⟨g, 0, none⟩) m cap) m ys) (hg : w.grownBy w' v.ownBlock)
    (hat : v.ownBlock = some g ∨ g = w.heap.size) : M w0 B w' (l.set i (.row e z (.slice (some ⟨g, 0, none⟩) m cap) m ys)) :=
  h.append hi ho hg (hat.imp (fun e => e.symm) (fun e => by rw [e]; rfl))
theorem keysOf_snoc (ns : List Nv) (x : Nv) : keysOf (ns ++ [x]) = keysOf ns ++ x.n.ks := by simp [keysOf]
theorem leafL_snoc {ns : List Nv} {L ks vs : List Int} {kv vv : Value} {p t s : Nat} (h : LeafL ns) (hk : keysOf ns = L.take p) (h0 : 1 ≤ ks.length) (hl : ks.length = vs.length) (he : ks = (L.drop p).take t) (hs : s = p + t) :
    LeafL (ns ++ [⟨⟨0, 0, 0, ks, vs⟩, kv, vv⟩]) ∧ keysOf (ns ++ [⟨⟨0, 0, 0, ks, vs⟩, kv, vv⟩]) = L.take s := by
  refine ⟨fun x hx => ?_, ?_⟩
  · rcases List.mem_append.1 hx with hx | hx
    · exact h x hx
    · rw [List.mem_singleton] at hx; subst hx
      exact ⟨rfl, fun e => by simp only at e; rw [e] at h0; simp at h0, hl⟩
  · rw [keysOf_snoc, hk, hs, List.take_add, he]
/-- The leaf that is being made comes to the others. -/
theorem M.push {w0 w : World} {B : Nat} {b : As} {k v : As} {o : As} {l : List As} (h : M w0 B w (b :: k :: v :: o :: l)) : M w0 B w (o :: (l ++ [k, v])) := by
  have h1 : M w0 B w (k :: v :: o :: l) := h.sub (List.sublist_cons_self _ _)
  refine h1.perm ?_
  have e1 : (o :: (l ++ [k, v])).Perm ((o :: l) ++ [k, v]) := by simp
  exact e1.trans List.perm_append_comm


/-- What leaves answers: the leaves, and how they hold the keys. -/
def LeavesR (L : List Int) (w w' : World) (e : Ending) : Prop :=
  ∃ v ns, e = .returned v ∧ M w w.heap.size w' (.row 24 5 v ns.length (ncells ns) :: nrows ns) ∧ keysOf ns = L ∧ ((LeafL ns ∧ ns ≠ []) ∨ (L = [] ∧ ns = [⟨⟨0, 0, 0, [], []⟩, .slice none 0 0, .slice none 0 0⟩]))

end Go.Proofs.YtajobgmnmbnhiaaDoor.Sap

/- WHAT IS PROVED HERE: how an operation of saplingkeep lies in memory. Conditions: none. -/
namespace Go.Proofs.YtajobgmnmbnhiaaDoor.Sap
open Go.RowKit

theorem infoDeed : (Tryd.prog.info? 81).map (fun i => (i.zero, i.size, i.bytes)) = some (some (.pointer none), 1, 8) := by kernel_rfl
/-- The cells of an operation that is under way or has ended. -/
def DC (k key v : Int) (f : ByteArray) (tv kv : Value) (rf en : Bool) (er : Int) (fd : Bool) (va pt : Int) (ks vs cs : Value) : Array Value := #[.int .i64 k, .int .i64 key, .int .i64 v, .string f, tv, kv, .bool rf, .bool en, .int .i64 er, .bool fd, .int .i64 va, .int .i64 pt, ks, vs, cs]

theorem M.bne {w0 w : World} {B i j b g : Nat} {l : List As} {c d : Array Value} {t u : TypeId} (h : M w0 B w l) (hi : l[i]? = some (.blk b c t)) (hj : l[j]? = some (.blk g d u)) (hij : i < j) : b ≠ g := by
  intro e
  subst e
  have hil : i < l.length := (List.getElem?_eq_some_iff.1 hi).1
  have hjl : j < l.length := (List.getElem?_eq_some_iff.1 hj).1
  have hia := (List.getElem?_eq_some_iff.1 hi).2
  have hja := (List.getElem?_eq_some_iff.1 hj).2
  have := List.pairwise_iff_getElem.1 h.apart i j hil hjl hij
  rw [hia, hja] at this
  exact this b rfl rfl
end Go.Proofs.YtajobgmnmbnhiaaDoor.Sap

/- WHAT IS PROVED HERE: small laws of the account of memory, for saplingkeep's move; what Tell may answer. Conditions: none. -/
namespace Go.Proofs.YtajobgmnmbnhiaaDoor.Sap
open Go.RowKit

/-- What Tell answers: it goes on, or it has ended. -/
def Out : Type := St ⊕ (Bool × Int × Int × List Int × List Int × List (Int × Int))
def Out.on (s : St) : Out := Sum.inl s
def Out.fin (fd : Bool) (va pt : Int) (ks vs : List Int) (cs : List (Int × Int)) : Out := Sum.inr (fd, va, pt, ks, vs, cs)
theorem Out.is (o : Out) : (∃ s, o = .on s) ∨ ∃ fd va pt ks vs cs, o = .fin fd va pt ks vs cs := by
  rcases o with s | x
  · exact .inl ⟨s, rfl⟩
  · exact .inr ⟨x.1, x.2.1, x.2.2.1, x.2.2.2.1, x.2.2.2.2.1, x.2.2.2.2.2, rfl⟩
theorem Out.on_inj {s s' : St} (h : Out.on s = Out.on s') : s = s' := Sum.inl.inj h
theorem Out.on_ne {s : St} {fd : Bool} {va pt : Int} {ks vs : List Int} {cs : List (Int × Int)} (h : Out.on s = Out.fin fd va pt ks vs cs) : False := by
  cases (show (Sum.inl s : St ⊕ (Bool × Int × Int × List Int × List Int × List (Int × Int))) = Sum.inr (fd, va, pt, ks, vs, cs) from h)
theorem Out.fin_inj {fd fd' : Bool} {va pt va' pt' : Int} {ks vs ks' vs' : List Int} {cs cs' : List (Int × Int)} (h : Out.fin fd va pt ks vs cs = Out.fin fd' va' pt' ks' vs' cs') : fd = fd' ∧ va = va' ∧ pt = pt' ∧ ks = ks' ∧ vs = vs' ∧ cs = cs' := by
  have := Sum.inr.inj (show (Sum.inr (fd, va, pt, ks, vs, cs) : St ⊕ (Bool × Int × Int × List Int × List Int × List (Int × Int))) = Sum.inr (fd', va', pt', ks', vs', cs') from h)
  simp only [Prod.mk.injEq] at this
  exact this
def cutc (cs : List (Int × Int)) : List Value := cs.flatMap fun c => [.int .i64 c.1, .int .i64 c.2]
def TellR (o : Out) (w w' : World) (e : Ending) : Prop :=
  match o with
  | .inl s => ∃ c : ByteArray, e = .returned (.tuple #[.string c, .agg #[.int .i64 0, .bool false, .int .i64 0, .int .i64 0, .slice none 0 0, .slice none 0 0, .slice none 0 0], .bool false, .int .i64 0]) ∧ c.data.toList = frT s ∧ Below w.heap.size w w'
  | .inr (fd, va, pt, ks, vs, cs) => ∃ kv vv cv, e = .returned (.tuple #[.string ⟨#[]⟩, .agg #[.int .i64 0, .bool fd, .int .i64 va, .int .i64 pt, kv, vv, cv], .bool true, .int .i64 0]) ∧ M w w.heap.size w' [.row 3 1 kv ks.length (ints ks), .row 3 1 vv vs.length (ints vs), .row 142 2 cv cs.length (cutc cs)]

theorem M.rowCell {w0 w : World} {B i g n cap : Nat} {l : List As} {e : TypeId} {xs : List Value} (h : M w0 B w l) (hi : l[i]? = some (.row e 1 (.slice (some ⟨g, 0, none⟩) n cap) n xs)) (j : Nat) (v : Value) (hv : xs[j]? = some v) : w.cell? ⟨g, j, none⟩ = some v := by
  have hr := h.get hi
  have hl := hr.1
  have hj := (List.getElem?_eq_some_iff.1 hv).1
  rw [World.ownsRow.cellAt hr j (by omega)]; exact hv
theorem M.store7 {w0 w : World} {B i b : Nat} {l : List As} {c0 c1 c2 c3 c4 c5 c6 : Value} {t : TypeId} (h : M w0 B w l) (hi : l[i]? = some (.blk b #[c0, c1, c2, c3, c4, c5, c6] t)) (a0 a1 a2 a3 a4 a5 a6 : Value) :
    M w0 B (((((((w.setCell ⟨b, 0, none⟩ a0).setCell ⟨b, 1, none⟩ a1).setCell ⟨b, 2, none⟩ a2).setCell ⟨b, 3, none⟩ a3).setCell ⟨b, 4, none⟩ a4).setCell ⟨b, 5, none⟩ a5).setCell ⟨b, 6, none⟩ a6) (l.set i (.blk b #[a0, a1, a2, a3, a4, a5, a6] t)) := by
  have hl : i < l.length := (List.getElem?_eq_some_iff.1 hi).1
  have e : ∀ (a : As), (l.set i a)[i]? = some a := fun a => by rw [List.getElem?_set, if_pos rfl, if_pos hl]
  have s0 := h.store (j := 0) hi a0 (c' := #[a0, c1, c2, c3, c4, c5, c6]) rfl
  have s1 := s0.store (j := 1) (e _) a1 (c' := #[a0, a1, c2, c3, c4, c5, c6]) rfl
  rw [List.set_set] at s1
  have s2 := s1.store (j := 2) (e _) a2 (c' := #[a0, a1, a2, c3, c4, c5, c6]) rfl
  rw [List.set_set] at s2
  have s3 := s2.store (j := 3) (e _) a3 (c' := #[a0, a1, a2, a3, c4, c5, c6]) rfl
  rw [List.set_set] at s3
  have s4 := s3.store (j := 4) (e _) a4 (c' := #[a0, a1, a2, a3, a4, c5, c6]) rfl
  rw [List.set_set] at s4
  have s5 := s4.store (j := 5) (e _) a5 (c' := #[a0, a1, a2, a3, a4, a5, c6]) rfl
  rw [List.set_set] at s5
  have s6 := s5.store (j := 6) (e _) a6 (c' := #[a0, a1, a2, a3, a4, a5, a6]) rfl
  rw [List.set_set] at s6
  exact s6
theorem M.rowFree {w0 w : World} {B i g n cap : Nat} {l : List As} {e : TypeId} {xs : List Value} (h : M w0 B w l) (hi : l[i]? = some (.row e 1 (.slice (some ⟨g, 0, none⟩) n cap) n xs)) (j : Nat) : w.frozen? ⟨g, j, none⟩ = false := World.ownsRow.frozenAt (h.get hi) j
end Go.Proofs.YtajobgmnmbnhiaaDoor.Sap
