/- WHAT IS PROVED HERE: saplingkeep's pieces answers true of a Scan that has ended as it should, each piece held against the map of its time. Conditions: all operations have ended; what is asked of each piece is named at the theorem. -/
import Derived.Test.YtjpgldeeopmbgaaDoorP1
namespace Go.Proofs.YtjpgldeeopmbgaaDoor.Sap
open Go.RowKit

theorem M.cellMem {w0 w : World} {B b : Nat} {l : List As} {c : Array Value} {t : TypeId} (h : M w0 B w l) (hm : As.blk b c t ∈ l) (j : Nat) (v : Value) (hv : c[j]? = some v) : w.cell? ⟨b, j, none⟩ = some v := by
  rw [Go.Joins.cell_of_block (h.holds _ hm).2]; exact hv

/-- The world with all its operations, what took effect (if it is known yet), and an answer that is looked at. -/
def PS (x : Wd) (ga : Nat) (ans : Array Value) (fr : List As) (w0 : World) (B : Nat) (W : World) : Prop :=
  ∃ ov' o', OrdI { x with ov := ov' } o' ∧ M w0 B W (({ x with ov := ov' } : Wd).as ++ (.row 119 4 ov' o'.length (dnc o') :: .blk ga ans 66 :: fr))
theorem PS.below {x : Wd} {ga : Nat} {ans : Array Value} {fr : List As} {w0 : World} {B : Nat} {W W' : World} (h : PS x ga ans fr w0 B W) (hb : Below W.heap.size W W') : PS x ga ans fr w0 B W' := by
  obtain ⟨ov', o', h1, h2⟩ := h
  exact ⟨ov', o', h1, h2.below hb⟩
/-- A map in memory. -/
def TabR (gt : Nat) (K V : List Int) (W : World) : Prop := ∃ tk tv, W.cell? ⟨gt, 0, none⟩ = some tk ∧ W.cell? ⟨gt, 1, none⟩ = some tv ∧ Rd W tk K ∧ Rd W tv V
theorem TabR.below {gt : Nat} {K V : List Int} {W W' : World} (h : TabR gt K V W) (hb : Below W.heap.size W W') : TabR gt K V W' := by
  obtain ⟨tk, tv, h1, h2, h3, h4⟩ := h
  exact ⟨tk, tv, cell_below hb _ _ h1, cell_below hb _ _ h2, h3.below hb, h4.below hb⟩

theorem cutc_at {l : List (Int × Int)} : ∀ {i : Nat} {c : Int × Int}, l[i]? = some c → (cutc l)[i * 2]? = some (.int .i64 c.1) ∧ (cutc l)[i * 2 + 1]? = some (.int .i64 c.2) := by
  induction l with
  | nil => intro i d h; simp at h
  | cons a l ih =>
    intro i d h
    have e : cutc (a :: l) = [.int .i64 a.1, .int .i64 a.2] ++ cutc l := rfl
    rw [e]
    cases i with
    | zero => simp at h; subst h; exact ⟨rfl, rfl⟩
    | succ i =>
      obtain ⟨h1, h2⟩ := ih (i := i) (c := d) (by simpa using h)
      rw [show (i + 1) * 2 = 2 + i * 2 by omega]
      refine ⟨?_, ?_⟩
      · rw [List.getElem?_append_right (by simp)]; simpa using h1
      · rw [List.getElem?_append_right (by simp; omega)]; simpa [Nat.add_assoc] using h2

/-- What is read of an operation, in such a world. -/
theorem PS.facts {x : Wd} {ga i : Nat} {ans : Array Value} {fr : List As} {w0 : World} {B : Nat} {W : World} {d : Dd} (h : PS x ga ans fr w0 B W) (hd : x.ds[i]? = some d) :
    (W.cell? ⟨d.gd, 1, none⟩ = some (.int .i64 d.key) ∧ W.cell? ⟨d.gd, 2, none⟩ = some (.int .i64 d.v) ∧ W.cell? ⟨d.gd, 4, none⟩ = some d.tm) ∧ Rd W d.kv d.ks ∧ Rd W d.vv d.vs ∧ Rd W d.tm d.ts ∧ As.holds W B (.row 112 2 d.cv d.cs.length (cutc d.cs)) := by
  obtain ⟨ov', o', -, h2⟩ := h
  have D := M.deed (pre := []) (x := { x with ov := ov' }) h2 hd
  refine ⟨⟨D.cell (i := 0) rfl 1 _ rfl, D.cell (i := 0) rfl 2 _ rfl, D.cell (i := 0) rfl 4 _ rfl⟩, owns_rd (D.get (i := 9) rfl).own, owns_rd (D.get (i := 10) rfl).own, owns_rd (D.get (i := 2) rfl).own, D.get (i := 11) rfl⟩
theorem PS.ans {x : Wd} {ga : Nat} {ans : Array Value} {fr : List As} {w0 : World} {B : Nat} {W : World} (h : PS x ga ans fr w0 B W) (j : Nat) (v : Value) (hv : ans[j]? = some v) : W.cell? ⟨ga, j, none⟩ = some v := by
  obtain ⟨ov', o', -, h2⟩ := h
  exact h2.cellMem (b := ga) (c := ans) (t := 66) (by simp) j v hv

theorem PS.at {x : Wd} {ga : Nat} {ans : Array Value} {fr : List As} {w0 : World} {B : Nat} {W : World} (h : PS x ga ans fr w0 B W) (time : Int) (hov : ∀ d ∈ x.ds, d.over) (hnd : x.ds.length ≤ 100000000) :
    Calls Tryd.prog 42 #[.pointer (some ⟨x.gw, 0, none⟩), .int .i64 time] W fun e w' => ∃ gt, e = .returned (.pointer (some ⟨gt, 0, none⟩)) ∧ ∃ o', o'.Perm (tkL x.ds) ∧ Srt o' ∧ PS x ga ans fr w0 B w' ∧ TabR gt (tabO (ahead o' time)).1 (tabO (ahead o' time)).2 w' ∧ (tabO (ahead o' time)).1.length = (tabO (ahead o' time)).2.length ∧ (tabO (ahead o' time)).1.length ≤ 100000000 := by
  obtain ⟨ov', o', h1, h2⟩ := h
  refine (at_any { x with ov := ov' } o' time _ w0 W B hov hnd h1 h2).mono ?_
  rintro e w' ⟨gt, rfl, ov2, o2, hp, hs, kv, vv, hM⟩
  have hlen : (tabO (ahead o2 time)).1.length = (tabO (ahead o2 time)).2.length ∧ (tabO (ahead o2 time)).1.length ≤ 100000000 := by
    obtain ⟨k, hk⟩ : ∃ k, ahead o2 time = o2.take k := ⟨_, (List.prefix_iff_eq_take.1 (List.takeWhile_prefix _))⟩
    have hkl : o2.take k = o2.take (min k o2.length) := by
      rcases Nat.le_total k o2.length with h | h
      · rw [Nat.min_eq_left h]
      · rw [Nat.min_eq_right h, List.take_of_length_le h, List.take_of_length_le (Nat.le_refl _)]
    rw [hk, hkl]
    have h3 := tabO_len o2 (min k o2.length)
    have h4 := hp.length_eq
    have h5 : (tkL x.ds).length ≤ x.ds.length := List.length_filterMap_le _ _
    exact ⟨h3.1, by have := h3.2; have h6 : min k o2.length ≤ o2.length := Nat.min_le_right _ _; change o2.length = (tkL x.ds).length at h4; omega⟩
  refine ⟨gt, rfl, o2, hp, hs, ⟨ov2, o2, Or.inr ⟨hp, hs⟩, (hM.sub (List.sublist_cons_self _ _)).sub (List.sublist_cons_self _ _) |>.sub (List.sublist_cons_self _ _)⟩, ⟨kv, vv, hM.cell (i := 0) rfl 0 _ rfl, hM.cell (i := 0) rfl 1 _ rfl, owns_rd (hM.get (i := 1) rfl).own, ?_⟩, hlen.1, hlen.2⟩
  have := (hM.get (i := 2) rfl).own
  rw [hlen.1] at this
  exact owns_rd this
end Go.Proofs.YtjpgldeeopmbgaaDoor.Sap
