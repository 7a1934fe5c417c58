/- WHAT IS PROVED HERE: saplingkeep.leaves cuts rising keys into leaves. Conditions: at most 120 keys; the sizes are ints. -/
import Derived.Test.YtajobgmnmbnhiaaDoorPt15
import Derived.Deep.AppendLies
import Derived.Deep.RegionLaw
namespace Go.Proofs.YtajobgmnmbnhiaaDoor.Sap
open Go.RowKit
theorem M.lies {w0 w w' : World} {B i g cap : Nat} {l : List As} {e : TypeId} {z n m : Nat} {v : Value} {xs ys : List Value} (h : M w0 B w l) (hi : l[i]? = some (.row e z v n xs)) (ho : w'.ownsRow B e z (.slice (some ⟨g, 0, none⟩) m cap) m ys) (hg : w.grownBy w' v.ownBlock)
    (hat : v.ownBlock = some g ∨ g = w.heap.size) : M w0 B w' (l.set i (.row e z (.slice (some ⟨g, 0, none⟩) m cap) m ys)) :=
  h.append hi ho hg (hat.imp (fun e => e.symm) (fun e => by rw [e]; rfl))
theorem M.consNil {w0 w : World} {B : Nat} {l : List As} {e : TypeId} {z : Nat} (h : M w0 B w l) : M w0 B w (.row e z (.slice none 0 0) 0 [] :: l) :=
  (M.snocNil h).perm (by simpa using List.perm_append_comm (l₁ := [As.row e z (Value.slice none 0 0) 0 []]) (l₂ := l))
theorem infoDeed : (Tryd.prog.info? 81).map (fun i => (i.zero, i.size, i.bytes)) = some (some (.pointer none), 1, 8) := by kernel_rfl
def DC (k key v : Int) (f : ByteArray) (tv kv : Value) (rf en : Bool) (er : Int) (fd : Bool) (va pt : Int) (ks vs cs : Value) : Array Value := #[.int .i64 k, .int .i64 key, .int .i64 v, .string f, tv, kv, .bool rf, .bool en, .int .i64 er, .bool fd, .int .i64 va, .int .i64 pt, ks, vs, cs]
theorem M.bne {w0 w : World} {B i j b g : Nat} {l : List As} {c d : Array Value} {t u : TypeId} (h : M w0 B w l) (hi : l[i]? = some (.blk b c t)) (hj : l[j]? = some (.blk g d u)) (hij : i < j) : b ≠ g := by
  intro e
  subst e
  have hil : i < l.length := (List.getElem?_eq_some_iff.1 hi).1
  have hjl : j < l.length := (List.getElem?_eq_some_iff.1 hj).1
  have hia := (List.getElem?_eq_some_iff.1 hi).2
  have hja := (List.getElem?_eq_some_iff.1 hj).2
  have := List.pairwise_iff_getElem.1 h.apart i j hil hjl hij
  rw [hia, hja] at this
  exact this b rfl rfl
def Out : Type := St ⊕ (Bool × Int × Int × List Int × List Int × List (Int × Int))
def Out.on (s : St) : Out := Sum.inl s
def Out.fin (fd : Bool) (va pt : Int) (ks vs : List Int) (cs : List (Int × Int)) : Out := Sum.inr (fd, va, pt, ks, vs, cs)
theorem Out.is (o : Out) : (∃ s, o = .on s) ∨ ∃ fd va pt ks vs cs, o = .fin fd va pt ks vs cs := by
  rcases o with s | x
  · exact .inl ⟨s, rfl⟩
  · exact .inr ⟨x.1, x.2.1, x.2.2.1, x.2.2.2.1, x.2.2.2.2.1, x.2.2.2.2.2, rfl⟩
def cutc (cs : List (Int × Int)) : List Value := cs.flatMap fun c => [.int .i64 c.1, .int .i64 c.2]
theorem M.rowCell {w0 w : World} {B i g n cap : Nat} {l : List As} {e : TypeId} {xs : List Value} (h : M w0 B w l) (hi : l[i]? = some (.row e 1 (.slice (some ⟨g, 0, none⟩) n cap) n xs)) (j : Nat) (v : Value) (hv : xs[j]? = some v) : w.cell? ⟨g, j, none⟩ = some v := by
  have hr := h.get hi
  have hl := hr.1
  have hj := (List.getElem?_eq_some_iff.1 hv).1
  rw [World.ownsRow.cellAt hr j (by omega)]; exact hv
theorem M.store7 {w0 w : World} {B i b : Nat} {l : List As} {c0 c1 c2 c3 c4 c5 c6 : Value} {t : TypeId} (h : M w0 B w l) (hi : l[i]? = some (.blk b #[c0, c1, c2, c3, c4, c5, c6] t)) (a0 a1 a2 a3 a4 a5 a6 : Value) :
    M w0 B (((((((w.setCell ⟨b, 0, none⟩ a0).setCell ⟨b, 1, none⟩ a1).setCell ⟨b, 2, none⟩ a2).setCell ⟨b, 3, none⟩ a3).setCell ⟨b, 4, none⟩ a4).setCell ⟨b, 5, none⟩ a5).setCell ⟨b, 6, none⟩ a6) (l.set i (.blk b #[a0, a1, a2, a3, a4, a5, a6] t)) := by
  have hl : i < l.length := (List.getElem?_eq_some_iff.1 hi).1
  have e : ∀ (a : As), (l.set i a)[i]? = some a := fun a => by rw [List.getElem?_set, if_pos rfl, if_pos hl]
  have s0 := h.store (j := 0) hi a0 (c' := #[a0, c1, c2, c3, c4, c5, c6]) rfl
  have s1 := s0.store (j := 1) (e _) a1 (c' := #[a0, a1, c2, c3, c4, c5, c6]) rfl
  rw [List.set_set] at s1
  have s2 := s1.store (j := 2) (e _) a2 (c' := #[a0, a1, a2, c3, c4, c5, c6]) rfl
  rw [List.set_set] at s2
  have s3 := s2.store (j := 3) (e _) a3 (c' := #[a0, a1, a2, a3, c4, c5, c6]) rfl
  rw [List.set_set] at s3
  have s4 := s3.store (j := 4) (e _) a4 (c' := #[a0, a1, a2, a3, a4, c5, c6]) rfl
  rw [List.set_set] at s4
  have s5 := s4.store (j := 5) (e _) a5 (c' := #[a0, a1, a2, a3, a4, a5, c6]) rfl
  rw [List.set_set] at s5
  have s6 := s5.store (j := 6) (e _) a6 (c' := #[a0, a1, a2, a3, a4, a5, a6]) rfl
  rw [List.set_set] at s6
  exact s6
theorem M.rowFree {w0 w : World} {B i g n cap : Nat} {l : List As} {e : TypeId} {xs : List Value} (h : M w0 B w l) (hi : l[i]? = some (.row e 1 (.slice (some ⟨g, 0, none⟩) n cap) n xs)) (j : Nat) : w.frozen? ⟨g, j, none⟩ = false := World.ownsRow.frozenAt (h.get hi) j
end Go.Proofs.YtajobgmnmbnhiaaDoor.Sap
