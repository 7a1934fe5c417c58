/- WHAT IS PROVED HERE: two rows of numbers of the call's own, and a node in memory that holds them, behind an append and a store. No program's function is walked. Conditions: none. -/
import Derived.Test.YtajobgmnmbnhiaaDoorW5
import Derived.Maps.AppendAt
namespace Go.Proofs.YtajobgmnmbnhiaaDoor.Sap
open Go.RowKit

def ints (xs : List Int) : List Value := xs.map (Value.int .i64)
theorem ints_snoc (xs : List Int) (x : Int) : ints (xs ++ [x]) = ints xs ++ [.int .i64 x] := by simp [ints]
theorem len_ints (xs : List Int) : (ints xs).length = xs.length := by simp [ints]

/-- Two slices that own rows of their own (blocks from B on), which are not one. -/
def Own (w : World) (B : Nat) (kv vv : Value) (ks vs : List Int) : Prop :=
  w.ownsRow B 3 1 kv ks.length (ints ks) ∧ w.ownsRow B 3 1 vv vs.length (ints vs) ∧ (∀ g, kv.ownBlock = some g → vv.ownBlock = some g → False)

/-- Block b is a node, its two slices own rows behind it. -/
def NB (w : World) (b : Nat) (lv lk hi : Int) (kv vv : Value) (ks vs : List Int) : Prop :=
  w.heap[b]? = some (.cells #[.int .i64 lv, .int .i64 lk, .int .i64 hi, kv, vv] 24 (0, 0)) ∧ Own w (b + 1) kv vv ks vs

theorem NB.lt {w : World} {b : Nat} {lv lk hi : Int} {kv vv : Value} {ks vs : List Int} (h : NB w b lv lk hi kv vv ks vs) : b < w.heap.size := lt_of_block h.1

theorem node_cells {w : World} {b : Nat} {c0 c1 c2 c3 c4 : Value} {t : TypeId} (h : w.heap[b]? = some (.cells #[c0, c1, c2, c3, c4] t (0, 0))) :
    (w.cell? ⟨b, 0, none⟩ = some c0 ∧ w.cell? ⟨b, 1, none⟩ = some c1 ∧ w.cell? ⟨b, 2, none⟩ = some c2 ∧ w.cell? ⟨b, 3, none⟩ = some c3 ∧ w.cell? ⟨b, 4, none⟩ = some c4) ∧
    (w.frozen? ⟨b, 0, none⟩ = false ∧ w.frozen? ⟨b, 1, none⟩ = false ∧ w.frozen? ⟨b, 2, none⟩ = false ∧ w.frozen? ⟨b, 3, none⟩ = false ∧ w.frozen? ⟨b, 4, none⟩ = false) := by
  have c := fun i => Go.Joins.cell_of_block h i
  have f := fun i => Go.Joins.unfrozen_of_block h i
  exact ⟨⟨by rw [c]; rfl, by rw [c]; rfl, by rw [c]; rfl, by rw [c]; rfl, by rw [c]; rfl⟩, ⟨f _, f _, f _, f _, f _⟩⟩

theorem block_alloc {w : World} {b : Nat} {x : Obj} (h : w.heap[b]? = some x) (o : Obj) : (w.alloc o).heap[b]? = some x := by
  rw [Below.heap_alloc _ _ _ (lt_of_block h)]; exact h
theorem block_below {w w' : World} {b : Nat} {x : Obj} (h : w.heap[b]? = some x) (hb : Below w.heap.size w w') : w'.heap[b]? = some x := by
  rw [hb.block b (lt_of_block h)]; exact h
theorem node_cells1 {w : World} {b : Nat} {c0 c1 c2 c3 c4 : Value} {t : TypeId} (h : w.heap[b]? = some (.cells #[c0, c1, c2, c3, c4] t (0, 0))) :
    ((∀ o, (w.alloc o).cell? ⟨b, 0, none⟩ = some c0) ∧ (∀ o, (w.alloc o).cell? ⟨b, 1, none⟩ = some c1) ∧ (∀ o, (w.alloc o).cell? ⟨b, 2, none⟩ = some c2) ∧ (∀ o, (w.alloc o).cell? ⟨b, 3, none⟩ = some c3) ∧ (∀ o, (w.alloc o).cell? ⟨b, 4, none⟩ = some c4)) ∧
    ((∀ o, (w.alloc o).frozen? ⟨b, 0, none⟩ = false) ∧ (∀ o, (w.alloc o).frozen? ⟨b, 1, none⟩ = false) ∧ (∀ o, (w.alloc o).frozen? ⟨b, 2, none⟩ = false) ∧ (∀ o, (w.alloc o).frozen? ⟨b, 3, none⟩ = false) ∧ (∀ o, (w.alloc o).frozen? ⟨b, 4, none⟩ = false)) := by
  have k := fun o => node_cells (block_alloc h o)
  exact ⟨⟨fun o => (k o).1.1, fun o => (k o).1.2.1, fun o => (k o).1.2.2.1, fun o => (k o).1.2.2.2.1, fun o => (k o).1.2.2.2.2⟩, ⟨fun o => (k o).2.1, fun o => (k o).2.2.1, fun o => (k o).2.2.2.1, fun o => (k o).2.2.2.2.1, fun o => (k o).2.2.2.2.2⟩⟩

theorem news_one (w : World) (x : Value) (t : TypeId) : ∀ j u, [x][j]? = some u → (w.alloc (.cells #[x] t)).cell? ((⟨w.heap.size, 0, none⟩ : Addr).add j) = some u := by
  intro j u hj
  match j, hj with
  | 0, hj =>
    simp at hj; subst hj
    simp [Addr.add]

theorem own_ne {w : World} {B : Nat} {e : TypeId} {v : Value} {n : Nat} {xs : List Value} (h : w.ownsRow B e 1 v n xs) {k : Nat} (hk : k < B) : v.ownBlock ≠ some k := fun he => by
  have := (h.lt k he).1; omega

theorem own_alloc_ne {w : World} {B : Nat} {e : TypeId} {v : Value} {n : Nat} {xs : List Value} (h : w.ownsRow B e 1 v n xs) {k : Nat} (hk : w.heap.size ≤ k) : v.ownBlock ≠ some k := fun he => by
  have := (h.lt k he).2; omega

/-- Behind 'append' to the first slice (an element in a new block o, then the law): what holds ahead of the store. -/
theorem NB.mid {w w1 : World} {b : Nat} {lv lk hi : Int} {kv vv : Value} {ks vs : List Int} {o : Obj} {row : Option Nat} (h : NB w b lv lk hi kv vv ks vs)
    (hg : (w.alloc o).grownBy w1 row) (hrow : row = kv.ownBlock ∨ row = vv.ownBlock) :
    w1.heap[b]? = some (.cells #[.int .i64 lv, .int .i64 lk, .int .i64 hi, kv, vv] 24 (0, 0)) ∧ Below (b + 1) w w1 := by
  have hlt := h.lt
  have hr : ∀ k, row = some k → b + 1 ≤ k := by
    intro k hk
    rcases hrow with e | e
    · exact (h.2.1.lt k (e ▸ hk)).1
    · exact (h.2.2.1.lt k (e ▸ hk)).1
  have hB : Below (b + 1) w w1 := ((Below.refl _ w).alloc (by omega) o).grown hg (by simp; omega) hr
  exact ⟨by rw [hB.block b (by omega)]; exact h.1, hB⟩

theorem NB.pushK {w w1 : World} {b : Nat} {lv lk hi : Int} {kv vv v' : Value} {ks vs : List Int} {o : Obj} {x : Int} (h : NB w b lv lk hi kv vv ks vs)
    (hown : w1.ownsRow (b + 1) 3 1 v' (ks.length + 1) (ints ks ++ [.int .i64 x])) (hg : (w.alloc o).grownBy w1 kv.ownBlock) (hat : v'.ownBlock = kv.ownBlock ∨ v'.ownBlock = some (w.alloc o).heap.size) :
    NB (w1.setCell ⟨b, 3, none⟩ v') b lv lk hi v' vv (ks ++ [x]) vs ∧ Below b w (w1.setCell ⟨b, 3, none⟩ v') := by
  obtain ⟨hm, hB⟩ := h.mid hg (Or.inl rfl)
  have hv : w1.ownsRow (b + 1) 3 1 vv vs.length (ints vs) := by
    refine (h.2.2.1.alloc o).kept hg ?_
    cases hvv : vv.ownBlock with
    | none => exact Or.inl rfl
    | some g => exact Or.inr fun e => h.2.2.2 g e.symm hvv
  refine ⟨⟨?_, ?_, ?_, ?_⟩, (hB.mono (Nat.le_succ _)).setCell (Nat.le_refl _) _⟩
  · rw [Go.Joins.block_setCell hm]; rfl
  · rw [List.length_append, ints_snoc]; exact ownsRow_setCell_other hown (own_ne hown (Nat.lt_succ_self _)) _
  · exact ownsRow_setCell_other hv (own_ne hv (Nat.lt_succ_self _)) _
  · intro g h1 h2
    rcases hat with e | e
    · exact h.2.2.2 g (e ▸ h1) h2
    · rw [e] at h1
      exact own_alloc_ne h.2.2.1 (k := g) (by simp at h1; omega) h2

theorem NB.pushV {w w1 : World} {b : Nat} {lv lk hi : Int} {kv vv v' : Value} {ks vs : List Int} {o : Obj} {x : Int} (h : NB w b lv lk hi kv vv ks vs)
    (hown : w1.ownsRow (b + 1) 3 1 v' (vs.length + 1) (ints vs ++ [.int .i64 x])) (hg : (w.alloc o).grownBy w1 vv.ownBlock) (hat : v'.ownBlock = vv.ownBlock ∨ v'.ownBlock = some (w.alloc o).heap.size) :
    NB (w1.setCell ⟨b, 4, none⟩ v') b lv lk hi kv v' ks (vs ++ [x]) ∧ Below b w (w1.setCell ⟨b, 4, none⟩ v') := by
  obtain ⟨hm, hB⟩ := h.mid hg (Or.inr rfl)
  have hv : w1.ownsRow (b + 1) 3 1 kv ks.length (ints ks) := by
    refine (h.2.1.alloc o).kept hg ?_
    cases hvv : kv.ownBlock with
    | none => exact Or.inl rfl
    | some g => exact Or.inr fun e => h.2.2.2 g hvv e.symm
  refine ⟨⟨?_, ?_, ?_, ?_⟩, (hB.mono (Nat.le_succ _)).setCell (Nat.le_refl _) _⟩
  · rw [Go.Joins.block_setCell hm]; rfl
  · exact ownsRow_setCell_other hv (own_ne hv (Nat.lt_succ_self _)) _
  · rw [List.length_append, ints_snoc]; exact ownsRow_setCell_other hown (own_ne hown (Nat.lt_succ_self _)) _
  · intro g h1 h2
    rcases hat with e | e
    · exact h.2.2.2 g h1 (e ▸ h2)
    · rw [e] at h2
      exact own_alloc_ne h.2.1 (k := g) (by simp at h2; omega) h1

theorem NB.new (w : World) (lv lk hi : Int) (b : Nat) (hb : b = w.heap.size) : NB (w.alloc (.cells #[.int .i64 lv, .int .i64 lk, .int .i64 hi, .slice none 0 0, .slice none 0 0] 24)) b lv lk hi (.slice none 0 0) (.slice none 0 0) [] [] :=
  ⟨hb ▸ heap_alloc_new w _, World.ownsRow_nil _ _ _ _, World.ownsRow_nil _ _ _ _, fun g h => by simp [Value.ownBlock] at h⟩

/-- What is owned in blocks from B on stays so while blocks below the heap's end stay. -/
theorem owns_below {w w' : World} {B : Nat} {e : TypeId} {v : Value} {n : Nat} {xs : List Value} (h : w.ownsRow B e 1 v n xs) (hb : Below w.heap.size w w') : w'.ownsRow B e 1 v n xs :=
  h.kept (row := none) ⟨hb.os, hb.tape, hb.output, hb.size, fun k hk _ => hb.block k hk⟩ (by cases v.ownBlock <;> simp)
theorem Own.below {w w' : World} {B : Nat} {kv vv : Value} {ks vs : List Int} (h : Own w B kv vv ks vs) (hb : Below w.heap.size w w') : Own w' B kv vv ks vs :=
  ⟨owns_below h.1 hb, owns_below h.2.1 hb, h.2.2⟩
theorem owns_mono {w : World} {B B' : Nat} {e : TypeId} {v : Value} {n : Nat} {xs : List Value} (h : w.ownsRow B e 1 v n xs) (hb : B' ≤ B) : w.ownsRow B' e 1 v n xs := by
  obtain ⟨h1, h2⟩ := h
  refine ⟨h1, ?_⟩
  rcases h2 with h2 | ⟨g, cap, cur, a, hg, r⟩
  · exact Or.inl h2
  · exact Or.inr ⟨g, cap, cur, a, by omega, r⟩
theorem Own.mono {w : World} {B B' : Nat} {kv vv : Value} {ks vs : List Int} (h : Own w B kv vv ks vs) (hb : B' ≤ B) : Own w B' kv vv ks vs :=
  ⟨owns_mono h.1 hb, owns_mono h.2.1 hb, h.2.2⟩
theorem Own.setCell {w : World} {B : Nat} {kv vv : Value} {ks vs : List Int} (h : Own w B kv vv ks vs) {a : Addr} (ha : a.block < B) (u : Value) : Own (w.setCell a u) B kv vv ks vs :=
  ⟨ownsRow_setCell_below h.1 ha u, ownsRow_setCell_below h.2.1 ha u, h.2.2⟩

theorem NB.drew {w : World} {b : Nat} {lv lk hi : Int} {kv vv : Value} {ks vs : List Int} (h : NB w b lv lk hi kv vv ks vs) : NB w.drew b lv lk hi kv vv ks vs := h
theorem NB.setEnd {w : World} {b : Nat} {lv lk hi x y : Int} {kv vv : Value} {ks vs : List Int} (h : NB w b lv lk hi kv vv ks vs) : NB ((w.setCell ⟨b, 1, none⟩ (.int .i64 x)).setCell ⟨b, 2, none⟩ (.int .i64 y)) b lv x y kv vv ks vs := by
  refine ⟨?_, (h.2.setCell (Nat.lt_succ_self _) _).setCell (Nat.lt_succ_self _) _⟩
  rw [Go.Joins.block_setCell (Go.Joins.block_setCell h.1 (i := 1) (.int .i64 x)) (i := 2)]; rfl

theorem own_form {w : World} {B : Nat} {e : TypeId} {v : Value} {n : Nat} {xs : List Value} (h : w.ownsRow B e 1 v n xs) : ∃ ao cap, v = .slice ao n cap := by
  rcases h.2 with ⟨rfl, h2⟩ | ⟨g, cap, cur, rfl, _⟩
  · exact ⟨none, 0, by rw [h2]⟩
  · exact ⟨_, _, rfl⟩

theorem owns_rd {w : World} {B : Nat} {v : Value} {xs : List Int} (h : w.ownsRow B 3 1 v xs.length (ints xs)) : Rd w v xs := by
  obtain ⟨h1, h2⟩ := h
  rcases h2 with ⟨rfl, h2⟩ | ⟨g, cap, cur, rfl, hg, hh, hn, hm, hs, ht⟩
  · exact ⟨none, 0, by rw [h2], fun hp => by omega⟩
  · refine ⟨some ⟨g, 0, none⟩, cap, rfl, fun _ => ⟨g, 0, rfl, fun j hj => ?_⟩⟩
    rw [Nat.zero_add, Go.Joins.cell_of_block hh]
    have e : (cur.toList.take (xs.length * 1))[j]? = (ints xs)[j]? := by rw [ht]
    rw [List.getElem?_take, if_pos (by omega)] at e
    rw [← Array.getElem?_toList, e]
    simp [ints, hj]
theorem Own.rdK {w : World} {B : Nat} {kv vv : Value} {ks vs : List Int} (h : Own w B kv vv ks vs) : Rd w kv ks := owns_rd h.1
theorem Own.rdV {w : World} {B : Nat} {kv vv : Value} {ks vs : List Int} (h : Own w B kv vv ks vs) : Rd w vv vs := owns_rd h.2.1
end Go.Proofs.YtajobgmnmbnhiaaDoor.Sap
