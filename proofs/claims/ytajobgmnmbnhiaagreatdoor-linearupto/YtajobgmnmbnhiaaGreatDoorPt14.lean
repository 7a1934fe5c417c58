/- WHAT IS PROVED HERE: a node in memory whose two slices own rows from a block on, behind an append and a store; and what else stays. No program's function is walked. Conditions: none. -/
import Derived.Test.YtajobgmnmbnhiaaGreatDoorPt08
import Derived.Deep.DeepCutAuto
namespace Go.Proofs.YtajobgmnmbnhiaaGreatDoor.Sap
open Go.RowKit
def NX (w : World) (b B : Nat) (lv lk hi : Int) (kv vv : Value) (ks vs : List Int) : Prop :=
  w.heap[b]? = some (.cells #[.int .i64 lv, .int .i64 lk, .int .i64 hi, kv, vv] 67 (0, 0)) ∧ Own w B kv vv ks vs ∧ b < B ∧ B ≤ w.heap.size
def But (b B : Nat) (w w' : World) : Prop := w'.os = w.os ∧ w'.tape = w.tape ∧ w'.output = w.output ∧ w.heap.size ≤ w'.heap.size ∧ ∀ k, k < B → k ≠ b → w'.heap[k]? = w.heap[k]?
theorem But.refl (b B : Nat) (w : World) : But b B w w := ⟨rfl, rfl, rfl, Nat.le_refl _, fun _ _ _ => rfl⟩
theorem But.trans {b B : Nat} {w1 w2 w3 : World} (h : But b B w1 w2) (k : But b B w2 w3) : But b B w1 w3 :=
  ⟨k.1.trans h.1, k.2.1.trans h.2.1, k.2.2.1.trans h.2.2.1, Nat.le_trans h.2.2.2.1 k.2.2.2.1, fun i hi hne => (k.2.2.2.2 i hi hne).trans (h.2.2.2.2 i hi hne)⟩
theorem But.below {b B : Nat} {w w' : World} (h : But b B w w') (hb : b ≤ B) : Below b w w' := ⟨h.1, h.2.1, h.2.2.1, h.2.2.2.1, fun k hk => h.2.2.2.2 k (by omega) (by omega)⟩
theorem mid_but {w w1 : World} {B : Nat} {o : Obj} {row : Option Nat} (hg : (w.alloc o).grownBy w1 row) (hB : B ≤ w.heap.size) (hrow : ∀ k, row = some k → B ≤ k) : ∀ k, k < B → w1.heap[k]? = w.heap[k]? := by
  intro k hk
  rw [hg.block k (by simp; omega) (fun e => by have := hrow k e.symm; omega), Below.heap_alloc _ _ _ (by omega)]
theorem NX.mid {w w1 : World} {b B : Nat} {lv lk hi : Int} {kv vv : Value} {ks vs : List Int} {o : Obj} {row : Option Nat} (h : NX w b B lv lk hi kv vv ks vs)
    (hg : (w.alloc o).grownBy w1 row) (hrow : row = kv.ownBlock ∨ row = vv.ownBlock) :
    w1.heap[b]? = some (.cells #[.int .i64 lv, .int .i64 lk, .int .i64 hi, kv, vv] 67 (0, 0)) ∧ (∀ k, row = some k → B ≤ k) := by
  have hr : ∀ k, row = some k → B ≤ k := by
    intro k hk
    rcases hrow with e | e
    · exact (h.2.1.1.lt k (e ▸ hk)).1
    · exact (h.2.1.2.1.lt k (e ▸ hk)).1
  exact ⟨by rw [mid_but hg h.2.2.2 hr b h.2.2.1]; exact h.1, hr⟩
theorem set_but {w w1 : World} {b B : Nat} {o : Obj} {row : Option Nat} {i : Nat} {u : Value} (hg : (w.alloc o).grownBy w1 row) (hB : B ≤ w.heap.size) (hrow : ∀ k, row = some k → B ≤ k) : But b B w (w1.setCell ⟨b, i, none⟩ u) := by
  have hs := hg.size
  simp at hs
  refine ⟨hg.os, hg.tape, hg.output, ?_, fun k hk hne => ?_⟩
  · show w.heap.size ≤ (w1.heap.modify b _).size
    rw [Array.size_modify]; omega
  · rw [Below.heap_setCell _ _ _ _ hne]
    exact mid_but hg hB hrow k hk
theorem NX.pushK {w w1 : World} {b B : Nat} {lv lk hi : Int} {kv vv v' : Value} {ks vs : List Int} {o : Obj} {x : Int} (h : NX w b B lv lk hi kv vv ks vs)
    (hown : w1.ownsRow B 3 1 v' (ks.length + 1) (ints ks ++ [.int .i64 x])) (hg : (w.alloc o).grownBy w1 kv.ownBlock) (hat : v'.ownBlock = kv.ownBlock ∨ v'.ownBlock = some (w.alloc o).heap.size) :
    NX (w1.setCell ⟨b, 3, none⟩ v') b B lv lk hi v' vv (ks ++ [x]) vs ∧ But b B w (w1.setCell ⟨b, 3, none⟩ v') := by
  obtain ⟨hm, hr⟩ := h.mid hg (Or.inl rfl)
  have hbut := set_but (b := b) (i := 3) (u := v') hg h.2.2.2 hr
  have hv : w1.ownsRow B 3 1 vv vs.length (ints vs) := by
    refine (h.2.1.2.1.alloc o).kept hg ?_
    cases hvv : vv.ownBlock with
    | none => exact Or.inl rfl
    | some g => exact Or.inr fun e => h.2.1.2.2 g e.symm hvv
  refine ⟨⟨?_, ⟨?_, ?_, ?_⟩, h.2.2.1, Nat.le_trans h.2.2.2 hbut.2.2.2.1⟩, hbut⟩
  · rw [Go.Joins.block_setCell hm]; rfl
  · rw [List.length_append, ints_snoc]; exact ownsRow_setCell_other hown (own_ne hown h.2.2.1) _
  · exact ownsRow_setCell_other hv (own_ne hv h.2.2.1) _
  · intro g h1 h2
    rcases hat with e | e
    · exact h.2.1.2.2 g (e ▸ h1) h2
    · rw [e] at h1
      exact own_alloc_ne h.2.1.2.1 (k := g) (by simp at h1; omega) h2
theorem NX.pushV {w w1 : World} {b B : Nat} {lv lk hi : Int} {kv vv v' : Value} {ks vs : List Int} {o : Obj} {x : Int} (h : NX w b B lv lk hi kv vv ks vs)
    (hown : w1.ownsRow B 3 1 v' (vs.length + 1) (ints vs ++ [.int .i64 x])) (hg : (w.alloc o).grownBy w1 vv.ownBlock) (hat : v'.ownBlock = vv.ownBlock ∨ v'.ownBlock = some (w.alloc o).heap.size) :
    NX (w1.setCell ⟨b, 4, none⟩ v') b B lv lk hi kv v' ks (vs ++ [x]) ∧ But b B w (w1.setCell ⟨b, 4, none⟩ v') := by
  obtain ⟨hm, hr⟩ := h.mid hg (Or.inr rfl)
  have hbut := set_but (b := b) (i := 4) (u := v') hg h.2.2.2 hr
  have hv : w1.ownsRow B 3 1 kv ks.length (ints ks) := by
    refine (h.2.1.1.alloc o).kept hg ?_
    cases hvv : kv.ownBlock with
    | none => exact Or.inl rfl
    | some g => exact Or.inr fun e => h.2.1.2.2 g hvv e.symm
  refine ⟨⟨?_, ⟨?_, ?_, ?_⟩, h.2.2.1, Nat.le_trans h.2.2.2 hbut.2.2.2.1⟩, hbut⟩
  · rw [Go.Joins.block_setCell hm]; rfl
  · exact ownsRow_setCell_other hv (own_ne hv h.2.2.1) _
  · rw [List.length_append, ints_snoc]; exact ownsRow_setCell_other hown (own_ne hown h.2.2.1) _
  · intro g h1 h2
    rcases hat with e | e
    · exact h.2.1.2.2 g h1 (e ▸ h2)
    · rw [e] at h2
      exact own_alloc_ne h.2.1.1 (k := g) (by simp at h2; omega) h1
end Go.Proofs.YtajobgmnmbnhiaaGreatDoor.Sap
