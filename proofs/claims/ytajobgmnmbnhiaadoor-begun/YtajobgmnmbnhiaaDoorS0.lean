/- WHAT IS PROVED HERE: a small account of memory: a list of blocks and rows that are there, no two of them one, and how it stands behind a new block, a store, an append and a call. No program's function is walked. Conditions: none. -/
import Derived.Test.YtajobgmnmbnhiaaDoorMem
namespace Go.Proofs.YtajobgmnmbnhiaaDoor.Sap
open Go.RowKit

/-- What is said of one block: all of it, or that it is a slice's row (with spare room). -/
def As : Type := (Nat × Array Value × TypeId) ⊕ (TypeId × Nat × Value × Nat × List Value)
def As.blk (b : Nat) (c : Array Value) (t : TypeId) : As := Sum.inl (b, c, t)
def As.row (e : TypeId) (z : Nat) (v : Value) (n : Nat) (xs : List Value) : As := Sum.inr (e, z, v, n, xs)
def As.holds (w : World) (B : Nat) (a : As) : Prop :=
  match (show (Nat × Array Value × TypeId) ⊕ (TypeId × Nat × Value × Nat × List Value) from a) with
  | .inl (b, c, t) => B ≤ b ∧ w.heap[b]? = some (.cells c t (0, 0))
  | .inr (e, z, v, n, xs) => w.ownsRow B e z v n xs
def As.foot (a : As) : Option Nat :=
  match (show (Nat × Array Value × TypeId) ⊕ (TypeId × Nat × Value × Nat × List Value) from a) with
  | .inl (b, _, _) => some b
  | .inr (_, _, v, _, _) => v.ownBlock
theorem As.holds.own {w : World} {B : Nat} {e : TypeId} {z : Nat} {v : Value} {n : Nat} {xs : List Value} (h : As.holds w B (.row e z v n xs)) : w.ownsRow B e z v n xs := h
@[simp] theorem As.foot_blk (b : Nat) (c : Array Value) (t : TypeId) : (As.blk b c t).foot = some b := rfl
@[simp] theorem As.foot_row (e : TypeId) (z : Nat) (v : Value) (n : Nat) (xs : List Value) : (As.row e z v n xs).foot = v.ownBlock := rfl
theorem As.is (a : As) : (∃ b c t, a = .blk b c t) ∨ ∃ e z v n xs, a = .row e z v n xs := by
  rcases a with x | x
  · exact .inl ⟨x.1, x.2.1, x.2.2, rfl⟩
  · exact .inr ⟨x.1, x.2.1, x.2.2.1, x.2.2.2.1, x.2.2.2.2, rfl⟩
def As.apart (a b : As) : Prop := ∀ k, a.foot = some k → b.foot = some k → False
theorem As.apart.symm {a b : As} (h : a.apart b) : b.apart a := fun k h1 h2 => h k h2 h1

/-- From w0 on, below block B nothing has turned; from B on these blocks are there, no two of them one. -/
structure M (w0 : World) (B : Nat) (w : World) (l : List As) : Prop where
  holds : ∀ a ∈ l, a.holds w B
  apart : l.Pairwise As.apart
  bl : Below B w0 w
  sz : B ≤ w.heap.size

theorem As.holds.lt {w : World} {B : Nat} {a : As} (h : a.holds w B) {k : Nat} (hk : a.foot = some k) : B ≤ k ∧ k < w.heap.size := by
  rcases a.is with ⟨b, c, t, rfl⟩ | ⟨e, z, v, n, xs, rfl⟩
  · simp only [As.foot_blk, Option.some.injEq] at hk; subst hk; exact ⟨h.1, lt_of_block h.2⟩
  · exact World.ownsRow.lt h k hk

/-- What is said of a block that has not turned still holds. -/
theorem As.holds.kept {w w' : World} {B : Nat} {a : As} (h : a.holds w B) (hk : ∀ k, a.foot = some k → w'.heap[k]? = w.heap[k]?) : a.holds w' B := by
  rcases a.is with ⟨b, c, t, rfl⟩ | ⟨e, z, v, n, xs, rfl⟩
  · exact ⟨h.1, (hk b rfl).trans h.2⟩
  · refine ⟨h.own.1, ?_⟩
    rcases h.own.2 with hn | ⟨g, cap, cur, rfl, hg, hgg, rest⟩
    · exact .inl hn
    · exact .inr ⟨g, cap, cur, rfl, hg, (hk g rfl).trans hgg, rest⟩

theorem M.start (w : World) : M w w.heap.size w [] := ⟨fun _ h => (List.not_mem_nil h).elim, List.Pairwise.nil, Below.refl _ _, Nat.le_refl _⟩
theorem M.get {w0 w : World} {B i : Nat} {l : List As} {a : As} (h : M w0 B w l) (hi : l[i]? = some a) : a.holds w B := h.holds a (List.mem_of_getElem? hi)

theorem M.block {w0 w : World} {B i b : Nat} {l : List As} {c : Array Value} {t : TypeId} (h : M w0 B w l) (hi : l[i]? = some (.blk b c t)) : w.heap[b]? = some (.cells c t (0, 0)) := (h.get hi).2
theorem M.below {w0 w w' : World} {B : Nat} {l : List As} (h : M w0 B w l) (hb : Below w.heap.size w w') : M w0 B w' l :=
  ⟨fun a ha => (h.holds a ha).kept fun k hk => hb.block k ((h.holds a ha).lt hk).2, h.apart, h.bl.trans (hb.mono h.sz), Nat.le_trans h.sz hb.size⟩

theorem M.sub {w0 w : World} {B : Nat} {l l' : List As} (h : M w0 B w l) (hs : l'.Sublist l) : M w0 B w l' :=
  ⟨fun a ha => h.holds a (hs.subset ha), h.apart.sublist hs, h.bl, h.sz⟩

theorem M.perm {w0 w : World} {B : Nat} {l l' : List As} (h : M w0 B w l) (hs : l'.Perm l) : M w0 B w l' :=
  ⟨fun a ha => h.holds a (hs.mem_iff.1 ha), (hs.pairwise_iff (fun h => As.apart.symm h)).2 h.apart, h.bl, h.sz⟩

theorem As.holds.mono {w : World} {B B' : Nat} {a : As} (h : a.holds w B) (hb : B' ≤ B) : a.holds w B' := by
  rcases a.is with ⟨b, c, t, rfl⟩ | ⟨e, z, v, n, xs, rfl⟩
  · exact ⟨Nat.le_trans hb h.1, h.2⟩
  · refine ⟨h.own.1, ?_⟩
    rcases h.own.2 with hn | ⟨g, cap, cur, e1, hg, r⟩
    · exact .inl hn
    · exact .inr ⟨g, cap, cur, e1, by omega, r⟩

/-- A call that has made blocks of its own. -/
theorem M.join {w0 w w' : World} {B : Nat} {l l' : List As} (h : M w0 B w l) (k : M w w.heap.size w' l') : M w0 B w' (l' ++ l) := by
  have hm := h.below k.bl
  refine ⟨fun a ha => ?_, ?_, hm.bl, hm.sz⟩
  · rcases List.mem_append.1 ha with ha | ha
    · exact (k.holds a ha).mono h.sz
    · exact hm.holds a ha
  · refine List.pairwise_append.2 ⟨k.apart, h.apart, fun a ha b hb j h1 h2 => ?_⟩
    have e1 := ((k.holds a ha).lt h1).1
    have e2 := ((h.holds b hb).lt h2).2
    omega

theorem M.alloc {w0 w : World} {B : Nat} {l : List As} (h : M w0 B w l) (c : Array Value) (t : TypeId) : M w0 B (w.alloc (.cells c t)) (.blk w.heap.size c t :: l) := by
  have hb : Below w.heap.size w (w.alloc (.cells c t)) := (Below.refl _ _).alloc (Nat.le_refl _) _
  have hm := h.below hb
  refine ⟨fun a ha => ?_, ?_, hm.bl, hm.sz⟩
  · rcases List.mem_cons.1 ha with rfl | ha
    · exact ⟨h.sz, heap_alloc_new w _⟩
    · exact hm.holds a ha
  · refine List.pairwise_cons.2 ⟨fun b hb j h1 h2 => ?_, h.apart⟩
    simp only [As.foot_blk, Option.some.injEq] at h1
    have := ((h.holds b hb).lt h2).2
    omega

/-- A new block of which nothing will be asked. -/
theorem M.allocd {w0 w : World} {B : Nat} {l : List As} (h : M w0 B w l) (o : Obj) : M w0 B (w.alloc o) l := h.below ((Below.refl _ _).alloc (Nat.le_refl _) _)
theorem M.drew {w0 w : World} {B : Nat} {l : List As} (h : M w0 B w l) : M w0 B w.drew l := h.below ⟨rfl, rfl, rfl, Nat.le_refl _, fun _ _ => rfl⟩
theorem M.drewN {w0 w : World} {B : Nat} {l : List As} (h : M w0 B w l) (d : Nat) : M w0 B (w.drewN d) l := h.below ⟨rfl, rfl, rfl, Nat.le_refl _, fun _ _ => rfl⟩

/-- One of them has turned (its own block at most, or it lies in a new one). -/
theorem M.upd {w0 w w' : World} {B i : Nat} {l : List As} {a a' : As} (h : M w0 B w l) (hi : l[i]? = some a) (hg : w.grownBy w' a.foot) (ha : a'.holds w' B) (hf : a'.foot = a.foot ∨ ∀ k, a'.foot = some k → w.heap.size ≤ k) :
    M w0 B w' (l.set i a') := by
  have hil : i < l.length := (List.getElem?_eq_some_iff.1 hi).1
  have hia : l[i] = a := (List.getElem?_eq_some_iff.1 hi).2
  have key : ∀ b j, l[j]? = some b → j ≠ i → b.holds w' B ∧ ∀ k, a'.foot = some k → b.foot = some k → False := by
    intro b j hj hne
    have hjl : j < l.length := (List.getElem?_eq_some_iff.1 hj).1
    have hjb : l[j] = b := (List.getElem?_eq_some_iff.1 hj).2
    have hap : a.apart b := by
      have hp := List.pairwise_iff_getElem.1 h.apart
      rcases Nat.lt_or_ge i j with hlt | hge
      · have := hp i j hil hjl hlt; rw [hia, hjb] at this; exact this
      · have := hp j i hjl hil (by omega); rw [hia, hjb] at this; exact this.symm
    have hb := h.get hj
    refine ⟨hb.kept fun k hk => ?_, fun k h1 h2 => ?_⟩
    · exact hg.block k (hb.lt hk).2 (fun e => hap k e.symm hk)
    · rcases hf with e | e
      · exact hap k (e ▸ h1) h2
      · have := e k h1; have := (hb.lt h2).2; omega
  refine ⟨fun b hb => ?_, ?_, ?_, Nat.le_trans h.sz hg.size⟩
  · obtain ⟨j, hj⟩ := List.mem_iff_getElem?.1 hb
    rw [List.getElem?_set] at hj
    split at hj
    · cases hj; exact ha
    · rename_i hne; exact (key b j hj (fun e => hne e.symm)).1
  · refine List.pairwise_iff_getElem.2 fun p q hp hq hpq => ?_
    rw [List.length_set] at hp hq
    rw [List.getElem_set, List.getElem_set]
    split
    · rename_i e
      rw [if_neg (by omega)]
      exact (key _ q (List.getElem?_eq_getElem hq) (by omega)).2
    · rename_i e
      split
      · exact fun k h1 h2 => (key _ p (List.getElem?_eq_getElem hp) (by omega)).2 k h2 h1
      · exact List.pairwise_iff_getElem.1 h.apart p q hp hq hpq
  · exact h.bl.grown hg h.sz (fun k hk => ((h.get hi).lt hk).1)

theorem M.store {w0 w : World} {B i b j : Nat} {l : List As} {c c' : Array Value} {t : TypeId} (h : M w0 B w l) (hi : l[i]? = some (.blk b c t)) (u : Value) (hc : c.setIfInBounds j u = c') : M w0 B (w.setCell ⟨b, j, none⟩ u) (l.set i (.blk b c' t)) := by
  have hb := h.get hi
  refine h.upd hi ⟨rfl, rfl, rfl, by simp [World.setCell], fun k _ hk => Below.heap_setCell _ _ _ _ (fun e => hk (by rw [e]; rfl))⟩ ⟨hb.1, ?_⟩ (Or.inl rfl)
  rw [Go.Joins.block_setCell hb.2, hc]

theorem M.storeRow {w0 w : World} {B i g j : Nat} {l : List As} {e : TypeId} {z n cap : Nat} {xs : List Value} (h : M w0 B w l) (hi : l[i]? = some (.row e z (.slice (some ⟨g, 0, none⟩) n cap) n xs)) (u : Value) : M w0 B (w.setCell ⟨g, j, none⟩ u) (l.set i (.row e z (.slice (some ⟨g, 0, none⟩) n cap) n (xs.set j u))) := by
  have hb := h.get hi
  obtain ⟨h1, h2⟩ := World.ownsRow.stored hb j u
  exact h.upd hi h2 h1 (Or.inl rfl)

/-- Behind an append (the new element lies in a block of its own). -/
theorem M.append {w0 w w' : World} {B i : Nat} {l : List As} {e : TypeId} {z n m : Nat} {v v' : Value} {xs ys : List Value} (h : M w0 B w l) (hi : l[i]? = some (.row e z v n xs)) (ho : w'.ownsRow B e z v' m ys) (hg : w.grownBy w' v.ownBlock)
    (hat : v'.ownBlock = v.ownBlock ∨ v'.ownBlock = some w.heap.size) : M w0 B w' (l.set i (.row e z v' m ys)) := by
  refine h.upd hi hg ho ?_
  rcases hat with e1 | e1
  · exact Or.inl e1
  · exact Or.inr fun k hk => by simp only [As.foot_row] at hk; rw [e1] at hk; cases hk; exact Nat.le_refl _

/-- The cells of a block that is there. -/
theorem M.cell {w0 w : World} {B i b : Nat} {l : List As} {c : Array Value} {t : TypeId} (h : M w0 B w l) (hi : l[i]? = some (.blk b c t)) (j : Nat) (v : Value) (hv : c[j]? = some v) : w.cell? ⟨b, j, none⟩ = some v := by
  rw [Go.Joins.cell_of_block (h.get hi).2]; exact hv
theorem M.free {w0 w : World} {B i b : Nat} {l : List As} {c : Array Value} {t : TypeId} (h : M w0 B w l) (hi : l[i]? = some (.blk b c t)) (j : Nat) : w.frozen? ⟨b, j, none⟩ = false := Go.Joins.unfrozen_of_block (h.get hi).2 j
theorem M.lt {w0 w : World} {B i b : Nat} {l : List As} {c : Array Value} {t : TypeId} (h : M w0 B w l) (hi : l[i]? = some (.blk b c t)) : b < w.heap.size := lt_of_block (h.get hi).2
/-- A row that is not empty lies somewhere. -/
theorem As.form {w : World} {B : Nat} {e : TypeId} {z n : Nat} {v : Value} {xs : List Value} (h : As.holds w B (.row e z v n xs)) (hn : 0 < n) : ∃ g cap, v = .slice (some ⟨g, 0, none⟩) n cap := by
  rcases h.own.2 with ⟨-, h0⟩ | ⟨g, cap, cur, rfl, -⟩
  · omega
  · exact ⟨g, cap, rfl⟩
theorem As.form0 {w : World} {B : Nat} {e : TypeId} {z n : Nat} {v : Value} {xs : List Value} (h : As.holds w B (.row e z v n xs)) : ∃ ao cap, v = .slice ao n cap := by
  rcases h.own.2 with ⟨h1, h0⟩ | ⟨g, cap, cur, rfl, -⟩
  · exact ⟨none, 0, by rw [h1, h0]⟩
  · exact ⟨_, cap, rfl⟩
end Go.Proofs.YtajobgmnmbnhiaaDoor.Sap
