/- WHAT IS PROVED HERE: plain facts that many texts use: on memory, on rising lists, on texts (no program's function is walked). Conditions: none but those named at each theorem. -/
import Derived.Test.YtajobgmnmbnhiaaDoorT1
import Derived.Test.YtajobgmnmbnhiaaDoorMem
import Derived.Test.YtajobgmnmbnhiaaDoorR2
namespace Go.Proofs.YtajobgmnmbnhiaaDoor.Sap
open Go.RowKit

theorem cellOf {w : World} {b : Nat} {arr : Array Value} {t : TypeId} {f : Nat × Nat} (h : w.heap[b]? = some (.cells arr t f)) (i : Nat) (v : Value) (hv : arr[i]? = some v) : w.cell? ⟨b, i, none⟩ = some v := by
  simp [World.cell?, h, hv]
theorem txt_size {c : ByteArray} {t : List UInt8} (h : c.data.toList = t) : c.size = t.length := by rw [← h, ba_size]
theorem rd_nil (w : World) : Rd w (.slice none 0 0) [] := ⟨none, 0, rfl, fun h => by simp at h⟩
theorem opR_kind (k key v : Int) (h : opR k key v = true) : k = 1 ∨ k = 3 ∨ k = 2 ∨ k = 4 := by
  simp only [opR, Bool.and_eq_true, Bool.or_eq_true, decide_eq_true_eq] at h
  omega
theorem gr_app {w w1 w2 : World} {g : Nat} {o : Obj} {row : Option Nat} (h : w.grownBy w1 (some g)) (k : (w1.alloc o).grownBy w2 row) (hr : ∀ j, row = some j → w.heap.size ≤ j) : w.grownBy w2 (some g) := by
  have hs := k.size
  have h1 := h.size
  simp at hs
  refine ⟨k.os.trans h.os, k.tape.trans h.tape, k.output.trans h.output, by omega, fun j hj hne => ?_⟩
  rw [k.block j (by simp; omega) (fun e => by have := hr j e.symm; omega), Below.heap_alloc _ _ _ (by omega)]
  exact h.block j hj hne
theorem owns_gr {w w' : World} {B g : Nat} {e : TypeId} {v : Value} {n : Nat} {xs : List Value} (h : w.ownsRow B e 1 v n xs) (hg : w.grownBy w' (some g)) (hlt : g < B) : w'.ownsRow B e 1 v n xs := by
  refine h.kept hg ?_
  cases hv : v.ownBlock with
  | none => exact Or.inl rfl
  | some k => exact Or.inr fun e => by have := (h.lt k hv).1; cases e; omega
/-- Numbers that a frame may bear. -/
def Fr (x : Int) : Prop := 0 ≤ x ∧ x ≤ 100000000000000000
theorem Fr.i {x : Int} (h : Fr x) : I64 x := by unfold Fr at h; unfold I64; omega
theorem keysOk_all (hi l : Int) (ks : List Int) (h : keysOk hi l ks = true) : ∀ k ∈ ks, l ≤ k ∧ k < hi := by
  induction ks generalizing l with
  | nil => intro k hk; cases hk
  | cons x r ih =>
    simp only [keysOk, Bool.and_eq_true, decide_eq_true_eq] at h
    intro k hk
    rcases List.mem_cons.1 hk with rfl | hk
    · omega
    · have := ih (x + 1) h.2.2 k hk; omega
/-- The least that the k-th of a rising list may be. -/
def lo (l : Int) (ks : List Int) (k : Nat) : Int := match k with | 0 => l | j + 1 => ks[j]?.getD 0 + 1
theorem keysOk_at (hi l : Int) (ks : List Int) (h : keysOk hi l ks = true) (k : Nat) (hk : k < ks.length) : lo l ks k ≤ ks[k]?.getD 0 ∧ ks[k]?.getD 0 < hi := by
  induction ks generalizing l k with
  | nil => simp at hk
  | cons x r ih =>
    simp only [keysOk, Bool.and_eq_true, decide_eq_true_eq] at h
    cases k with
    | zero => simp [lo]; omega
    | succ j =>
      have := ih (x + 1) h.2.2 j (by simpa using hk)
      cases j with
      | zero => simpa [lo] using this
      | succ i => simpa [lo] using this
/-- Nothing below block B has turned between two worlds but block g. -/
theorem block_gr {w w' : World} {g b : Nat} {x : Obj} (h : w.heap[b]? = some x) (hg : w.grownBy w' (some g)) (hne : b ≠ g) : w'.heap[b]? = some x := by
  rw [hg.block b (lt_of_block h) (fun e => hne (Option.some.inj e))]; exact h
theorem own_sep {w : World} {B C : Nat} {e f : TypeId} {u v : Value} {n m : Nat} {xs ys : List Value} {w' : World} (h : w.ownsRow B e 1 u n xs) (k : w'.ownsRow C f 1 v m ys) (hC : w.heap.size ≤ C) : ∀ g, u.ownBlock = some g → v.ownBlock = some g → False := by
  intro g h1 h2
  have a := (h.lt g h1).2
  have b := (k.lt g h2).1
  omega
theorem drop_next {s : ByteArray} {a : Nat} {x y : List UInt8} (h : s.data.toList.drop a = x ++ y) : s.data.toList.drop (a + x.length) = y := by
  rw [← List.drop_drop, h, List.drop_left]
theorem int_nat {x : Int} (h : 0 ≤ x) : ((x.toNat : Nat) : Int) = x := by omega
theorem alloc_size (w : World) (o : Obj) : (w.alloc o).heap.size = w.heap.size + 1 := by simp
/-- A row that came in lies below the heap's end. -/
theorem Rd.blk_lt {w : World} {b off m cap : Nat} {xs : List Int} (h : Rd w (.slice (some ⟨b, off, none⟩) m cap) xs) (k : Nat) (hk : k < m) : b < w.heap.size := by
  obtain ⟨b1, o1, e, -, x1⟩ := h.elem k hk
  cases e
  have h1 := x1 w (Below.refl _ _)
  rcases Nat.lt_or_ge b w.heap.size with h2 | h2
  · exact h2
  · simp [World.cell?, Array.getElem?_eq_none h2] at h1
/-- The empty answer. -/
def ans0 : Array Value := #[.int .i64 0, .bool false, .int .i64 0, .int .i64 0, .slice none 0 0, .slice none 0 0, .slice none 0 0]
/-- Where a Scan's piece i begins; how many keys lie ahead of it; when the piece ahead of it was read. -/
def fromV (bel : List Int) (key : Int) : Nat → Int
  | 0 => key
  | i + 1 => bel[i]?.getD 0
theorem cell_set_off (w : World) (b i j : Nat) (u : Value) (h : i ≠ j) : (w.setCell ⟨b, i, none⟩ u).drew.cell? ⟨b, j, none⟩ = w.cell? ⟨b, j, none⟩ := by
  show (w.setCell ⟨b, i, none⟩ u).cell? ⟨b, j, none⟩ = _
  simp only [World.cell?, World.setCell, Array.getElem?_modify, if_true]
  cases hw : w.heap[b]? with
  | none => rfl
  | some o => cases o <;> simp [h]
theorem cell_set_blk (w : World) (b c i j : Nat) (u : Value) (h : c ≠ b) : (w.setCell ⟨b, i, none⟩ u).drew.cell? ⟨c, j, none⟩ = w.cell? ⟨c, j, none⟩ := by
  show (w.setCell ⟨b, i, none⟩ u).cell? ⟨c, j, none⟩ = _
  exact World.cell?_of_block (Below.heap_setCell _ _ _ _ h)
end Go.Proofs.YtajobgmnmbnhiaaDoor.Sap
