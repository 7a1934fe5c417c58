/- WHAT IS PROVED HERE: saplingkeep's at: the map at a time, when all operations have ended. Conditions: the Point of each operation is one of its accesses. -/
import Derived.Test.YtajobgmnmbnhiabDoorXK4K5
namespace Go.Proofs.YtajobgmnmbnhiabDoor.Sap
open Go.RowKit

theorem eql_nilD (w : World) (a : Option Addr) (l c : Nat) : (binOp .eql 31 (.slice a l c) (.slice none 0 0)).run Tryd.prog w = .ok (.bool a.isNone) w := by
  simp only [binOp]
  simp [run_equal_slice_nil w 31 167 a l c Tryd.underlying31]

/-- What is kept of what took effect: nothing yet, or all of it in order. -/
def OrdI (x : Wd) (o : List Dn) : Prop := (x.ov = .slice none 0 0 ∧ o = []) ∨ (o.Perm (tkL x.ds) ∧ Srt o)

theorem dn_cells {w : World} {B g n cap : Nat} {L : List Dn} (hr : w.ownsRow B 167 4 (.slice (some ⟨g, 0, none⟩) n cap) n (dnc L)) {j : Nat} {d : Dn} (hj : L[j]? = some d) (hjn : j < n) :
    w.cell? ⟨g, j * 4, none⟩ = some (.int .i64 d.t) ∧ w.cell? ⟨g, j * 4 + 1, none⟩ = some (.int .i64 d.k) ∧ w.cell? ⟨g, j * 4 + 2, none⟩ = some (.int .i64 d.key) ∧ w.cell? ⟨g, j * 4 + 3, none⟩ = some (.int .i64 d.v) := by
  obtain ⟨h1, h2, h3, h4⟩ := dnc_at hj
  refine ⟨?_, ?_, ?_, ?_⟩
  · rw [World.ownsRow.cellAt hr _ (by omega)]; exact h1
  · rw [World.ownsRow.cellAt hr _ (by omega)]; exact h2
  · rw [World.ownsRow.cellAt hr _ (by omega)]; exact h3
  · rw [World.ownsRow.cellAt hr _ (by omega)]; exact h4

end Go.Proofs.YtajobgmnmbnhiabDoor.Sap

/- WHAT IS PROVED HERE: saplingkeep's pieces answers true of a Scan that has ended as it should, each piece held against the map of its time. Conditions: all operations have ended; what is asked of each piece is named at the theorem. -/
namespace Go.Proofs.YtajobgmnmbnhiabDoor.Sap
open Go.RowKit

theorem M.cellMem {w0 w : World} {B b : Nat} {l : List As} {c : Array Value} {t : TypeId} (h : M w0 B w l) (hm : As.blk b c t ∈ l) (j : Nat) (v : Value) (hv : c[j]? = some v) : w.cell? ⟨b, j, none⟩ = some v := by
  rw [Go.Joins.cell_of_block (h.holds _ hm).2]; exact hv

/-- The world with all its operations, what took effect (if it is known yet), and an answer that is looked at. -/
def PS (x : Wd) (ga : Nat) (ans : Array Value) (fr : List As) (w0 : World) (B : Nat) (W : World) : Prop :=
  ∃ ov' o', OrdI { x with ov := ov' } o' ∧ M w0 B W (({ x with ov := ov' } : Wd).as ++ (.row 167 4 ov' o'.length (dnc o') :: .blk ga ans 38 :: fr))
theorem PS.below {x : Wd} {ga : Nat} {ans : Array Value} {fr : List As} {w0 : World} {B : Nat} {W W' : World} (h : PS x ga ans fr w0 B W) (hb : Below W.heap.size W W') : PS x ga ans fr w0 B W' := by
  obtain ⟨ov', o', h1, h2⟩ := h
  exact ⟨ov', o', h1, h2.below hb⟩
/-- A map in memory. -/
def TabR (gt : Nat) (K V : List Int) (W : World) : Prop := ∃ tk tv, W.cell? ⟨gt, 0, none⟩ = some tk ∧ W.cell? ⟨gt, 1, none⟩ = some tv ∧ Rd W tk K ∧ Rd W tv V
theorem TabR.below {gt : Nat} {K V : List Int} {W W' : World} (h : TabR gt K V W) (hb : Below W.heap.size W W') : TabR gt K V W' := by
  obtain ⟨tk, tv, h1, h2, h3, h4⟩ := h
  exact ⟨tk, tv, cell_below hb _ _ h1, cell_below hb _ _ h2, h3.below hb, h4.below hb⟩

theorem cutc_at {l : List (Int × Int)} : ∀ {i : Nat} {c : Int × Int}, l[i]? = some c → (cutc l)[i * 2]? = some (.int .i64 c.1) ∧ (cutc l)[i * 2 + 1]? = some (.int .i64 c.2) := by
  induction l with
  | nil => intro i d h; simp at h
  | cons a l ih =>
    intro i d h
    have e : cutc (a :: l) = [.int .i64 a.1, .int .i64 a.2] ++ cutc l := rfl
    rw [e]
    cases i with
    | zero => simp at h; subst h; exact ⟨rfl, rfl⟩
    | succ i =>
      obtain ⟨h1, h2⟩ := ih (i := i) (c := d) (by simpa using h)
      rw [show (i + 1) * 2 = 2 + i * 2 by omega]
      refine ⟨?_, ?_⟩
      · rw [List.getElem?_append_right (by simp)]; simpa using h1
      · rw [List.getElem?_append_right (by simp; omega)]; simpa [Nat.add_assoc] using h2

/-- What is read of an operation, in such a world. -/
theorem PS.facts {x : Wd} {ga i : Nat} {ans : Array Value} {fr : List As} {w0 : World} {B : Nat} {W : World} {d : Dd} (h : PS x ga ans fr w0 B W) (hd : x.ds[i]? = some d) :
    (W.cell? ⟨d.gd, 1, none⟩ = some (.int .i64 d.key) ∧ W.cell? ⟨d.gd, 2, none⟩ = some (.int .i64 d.v) ∧ W.cell? ⟨d.gd, 4, none⟩ = some d.tm) ∧ Rd W d.kv d.ks ∧ Rd W d.vv d.vs ∧ Rd W d.tm d.ts ∧ As.holds W B (.row 136 2 d.cv d.cs.length (cutc d.cs)) := by
  obtain ⟨ov', o', -, h2⟩ := h
  have D := M.deed (pre := []) (x := { x with ov := ov' }) h2 hd
  refine ⟨⟨D.cell (i := 0) rfl 1 _ rfl, D.cell (i := 0) rfl 2 _ rfl, D.cell (i := 0) rfl 4 _ rfl⟩, owns_rd (D.get (i := 9) rfl).own, owns_rd (D.get (i := 10) rfl).own, owns_rd (D.get (i := 2) rfl).own, D.get (i := 11) rfl⟩
theorem PS.ans {x : Wd} {ga : Nat} {ans : Array Value} {fr : List As} {w0 : World} {B : Nat} {W : World} (h : PS x ga ans fr w0 B W) (j : Nat) (v : Value) (hv : ans[j]? = some v) : W.cell? ⟨ga, j, none⟩ = some v := by
  obtain ⟨ov', o', -, h2⟩ := h
  exact h2.cellMem (b := ga) (c := ans) (t := 38) (by simp) j v hv

end Go.Proofs.YtajobgmnmbnhiabDoor.Sap

/- WHAT IS PROVED HERE: saplingkeep's single answers true of a Get, Put or Drop that has ended as it should, held against the map of its time. Conditions: all operations have ended; what is asked of its answer is named at the theorem (SinOk). -/
namespace Go.Proofs.YtajobgmnmbnhiabDoor.Sap
open Go.RowKit

/-- The answer of a Get, Put or Drop that has ended is what a map answers that those ahead of it have made; or it was refused. -/
structure SinOk (x : Wd) (d : Dd) : Prop where
  ks : d.ks = []
  vs : d.vs = []
  cs : d.cs = []
  an : (d.er = 4 ∧ d.k = 2 ∧ d.fd = false ∧ d.va = 0) ∨ (d.er = 0 ∧ ∀ o', o'.Perm (tkL x.ds) → Srt o' → ∀ fd v, ValR (tabO (ahead o' (d.ts[d.pt.toNat]?.getD 0))).1 (tabO (ahead o' (d.ts[d.pt.toNat]?.getD 0))).2 d.key fd v → d.fd = fd ∧ d.va = v)

end Go.Proofs.YtajobgmnmbnhiabDoor.Sap
