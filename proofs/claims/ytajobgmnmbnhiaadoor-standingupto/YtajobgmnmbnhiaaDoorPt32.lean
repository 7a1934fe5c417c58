/- WHAT IS PROVED HERE: saplingkeep's alone and settle over any program that keeps an invariant of the world: what a machine is (Mc), one client behind the other moves alone till all operations have ended. Conditions: those of a machine: each access and each beginning keeps the invariant, and a client that moves comes nearer to its end. -/
import Derived.Test.YtajobgmnmbnhiaaDoorPt31
namespace Go.Proofs.YtajobgmnmbnhiaaDoor.Sap
open Go.RowKit
structure Nx (c : Nat) (x x' : Wd) : Prop where
  now : x'.now = x.now + 1
  nd : x'.ds.length = x.ds.length
  bs : ∀ j, j ≠ c → x'.bs[j]? = x.bs[j]?
structure Mc (Inv : Wd → Prop) (rk : Nat → Wd → Nat) (gw : Nat) (w0 : World) (B : Nat) : Prop where
  pg : ∀ x, Inv x → x.gw = gw
  bs : ∀ x c, Inv x → c < 64 → x.bs[c]? = some (-1) ∨ (∃ i : Nat, x.bs[c]? = some (i : Int)) ∧ 0 < rk c x ∧ rk c x ≤ 1000
  now : ∀ x, Inv x → 0 ≤ x.now
  mv : ∀ x (c i : Nat) W (fr : List As), c < 64 → Inv x → x.now ≤ 90000000 → x.bs[c]? = some (i : Int) → M w0 B W (x.as ++ fr) → Calls Tryd.prog 56 #[.pointer (some ⟨gw, 0, none⟩), .int .i64 c] W fun e w' => (∃ u, e = .returned u) ∧ ∃ x', Inv x' ∧ Nx c x x' ∧ (x'.bs[c]? = some (-1) ∨ rk c x' < rk c x) ∧ M w0 B w' (x'.as ++ fr)
  bg : ∀ x (c : Nat) (k key v : Int) W (fr : List As), c < 64 → Inv x → x.ds.length ≤ 90000000 → opR k key v = true → x.bs[c]? = some (-1) → M w0 B W (x.as ++ fr) → Calls Tryd.prog 55 #[.pointer (some ⟨gw, 0, none⟩), .int .i64 c, .agg #[.int .i64 k, .int .i64 key, .int .i64 v]] W fun e w' => (∃ u, e = .returned u) ∧ ∃ x', Inv x' ∧ x'.now = x.now ∧ x'.ds.length = x.ds.length + 1 ∧ (∀ j, j ≠ c → x'.bs[j]? = x.bs[j]?) ∧ M w0 B w' (x'.as ++ fr)
theorem M.cellIn {w0 w : World} {B b : Nat} {l : List As} {c : Array Value} {t : TypeId} (h : M w0 B w l) (hm : As.blk b c t ∈ l) (j : Nat) (v : Value) (hv : c[j]? = some v) : w.cell? ⟨b, j, none⟩ = some v := by
  obtain ⟨i, hi⟩ := List.getElem?_of_mem hm
  exact h.cell hi j v hv
def Wd.first (gw tg tc ug uc vg vc bg bc : Nat) : Wd := ⟨gw, tg, tc, ug, uc, vg, vc, bg, bc, .slice none 0 0, firstB :: List.replicate 63 ⟨#[]⟩, true :: List.replicate 63 false, List.replicate 64 0, List.replicate 64 (-1), 0, 0, false, false, false, .slice none 0 0, .slice none 0 0, []⟩
theorem fresh_wd (w : World) : Calls Tryd.prog 28 #[] w fun e w' => e = .returned (.pointer (some ⟨w.heap.size, 0, none⟩)) ∧ ∃ tg tc ug uc vg vc bg bc, M w w.heap.size w' ((Wd.first w.heap.size tg tc ug uc vg vc bg bc).as ++ []) := by
  refine (fresh_any w).mono ?_
  rintro e w' ⟨tv, uv, vv, bv, rfl, h⟩
  obtain ⟨tg, tc, rfl⟩ := As.form (h.get (i := 1) rfl) (by omega)
  obtain ⟨ug, uc, rfl⟩ := As.form (h.get (i := 2) rfl) (by omega)
  obtain ⟨vg, vc, rfl⟩ := As.form (h.get (i := 3) rfl) (by omega)
  obtain ⟨bg, bc, rfl⟩ := As.form (h.get (i := 4) rfl) (by omega)
  refine ⟨rfl, tg, tc, ug, uc, vg, vc, bg, bc, ?_⟩
  have h2 := M.rowNil (e := 81) (z := 1) h
  have e1 : (Wd.first w.heap.size tg tc ug uc vg vc bg bc).as ++ [] = [.blk w.heap.size (WC (.slice (some ⟨tg, 0, none⟩) 64 tc) (.slice (some ⟨ug, 0, none⟩) 64 uc) (.slice (some ⟨vg, 0, none⟩) 64 vc) (.slice none 0 0) (.slice (some ⟨bg, 0, none⟩) 64 bc) 0 0 false false false false false (.slice none 0 0) (.slice none 0 0) false) 58, .row 3 1 (.slice (some ⟨bg, 0, none⟩) 64 bc) 64 (List.replicate 64 (.int .i64 (-1))), .row 81 1 (.slice none 0 0) 0 [], .row 9 1 (.slice (some ⟨tg, 0, none⟩) 64 tc) 64 (.string firstB :: List.replicate 63 (.string ⟨#[]⟩)), .row 4 1 (.slice (some ⟨ug, 0, none⟩) 64 uc) 64 (.bool true :: List.replicate 63 (.bool false)), .row 3 1 (.slice (some ⟨vg, 0, none⟩) 64 vc) 64 (List.replicate 64 (.int .i64 0))] := by
    simp [Wd.as, Wd.hd, Wd.first, ints, strs, bools]
  rw [e1]
  refine h2.perm ?_
  refine List.Perm.cons _ ?_
  refine (List.perm_append_comm (l₁ := [_, _, _, _]) (l₂ := [_])).symm.trans ?_
  exact List.Perm.refl _
structure Tn where
  cl : Int
  k : Int
  key : Int
  v : Int
  mv : Int
structure Tn.ok (t : Tn) : Prop where
  cl : I64 t.cl
  k : I64 t.k
  key : I64 t.key
  v : I64 t.v
  mv : I64 t.mv
def TRd (w : World) (v : Value) (ts : List Tn) : Prop :=
  ∃ ao cap, v = .slice ao ts.length cap ∧ (0 < ts.length → ∃ b off, ao = some ⟨b, off, none⟩ ∧ ∀ j t, ts[j]? = some t → w.cell? ⟨b, off + j * 5, none⟩ = some (.int .i64 t.cl) ∧ w.cell? ⟨b, off + j * 5 + 1, none⟩ = some (.int .i64 t.k) ∧ w.cell? ⟨b, off + j * 5 + 2, none⟩ = some (.int .i64 t.key) ∧ w.cell? ⟨b, off + j * 5 + 3, none⟩ = some (.int .i64 t.v) ∧ w.cell? ⟨b, off + j * 5 + 4, none⟩ = some (.int .i64 t.mv))
theorem TRd.below {w w' : World} {v : Value} {ts : List Tn} (h : TRd w v ts) (hb : Below w.heap.size w w') : TRd w' v ts := by
  obtain ⟨ao, cap, rfl, h⟩ := h
  refine ⟨ao, cap, rfl, fun hp => ?_⟩
  obtain ⟨b, off, rfl, k⟩ := h hp
  refine ⟨b, off, rfl, fun j t hj => ?_⟩
  obtain ⟨h0, h1, h2, h3, h4⟩ := k j t hj
  exact ⟨cell_below hb _ _ h0, cell_below hb _ _ h1, cell_below hb _ _ h2, cell_below hb _ _ h3, cell_below hb _ _ h4⟩
structure Dn where
  t : Int
  k : Int
  key : Int
  v : Int
end Go.Proofs.YtajobgmnmbnhiaaDoor.Sap
