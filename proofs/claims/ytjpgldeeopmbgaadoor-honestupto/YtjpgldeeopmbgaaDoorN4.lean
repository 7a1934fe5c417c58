/- WHAT IS PROVED HERE: saplingkeep's begin as a step of the world with all its operations; the world that fresh makes. Conditions: what Begin answers is given; the numbers are small. -/
import Derived.Test.YtjpgldeeopmbgaaDoorN3
namespace Go.Proofs.YtjpgldeeopmbgaaDoor.Sap
open Go.RowKit

/-- An operation that was just begun. -/
def Dd.new (gd kg kc : Nat) (k key v : Int) (f : ByteArray) : Dd := ⟨gd, kg, kc, .slice none 0 0, .slice none 0 0, .slice none 0 0, .slice none 0 0, k, key, v, f, [], List.replicate 64 (-1), false, false, 0, false, 0, 0, [], [], []⟩

theorem M.nil2 {w0 w : World} {B : Nat} {l1 l2 : List As} {e : TypeId} {z : Nat} (h : M w0 B w (l1 ++ l2)) : M w0 B w (l1 ++ .row e z (.slice none 0 0) 0 [] :: l2) := by
  have h1 := h.snocNil (e := e) (z := z)
  refine h1.perm ?_
  rw [List.append_assoc]
  exact List.Perm.append_left _ (List.perm_append_comm (l₁ := [_]))

set_option maxRecDepth 100000 in
set_option maxHeartbeats 1600000 in
theorem sys_begin (x : Wd) (c : Nat) (k key v : Int) (P : ByteArray → Prop) (fr : List As) (w0 w : World) (B : Nat) (htab : Tab w0) (hB : B = w0.heap.size) (hc : c < 64) (hnd : x.ds.length ≤ 100000000) (hp0 : 0 ≤ x.puts) (hp1 : x.puts ≤ 100000000)
    (hBegin : ∀ W, Tab W → Calls Tryd.prog 24 #[.agg #[.int .i64 k, .int .i64 key, .int .i64 v]] W fun e w' => (∃ f : ByteArray, e = .returned (.tuple #[.string f, .int .i64 0]) ∧ P f) ∧ Below W.heap.size W w')
    (h : M w0 B w (x.as ++ fr)) :
    Calls Tryd.prog 31 #[.pointer (some ⟨x.gw, 0, none⟩), .int .i64 c, .agg #[.int .i64 k, .int .i64 key, .int .i64 v]] w fun e w' => (∃ u, e = .returned u) ∧ ∃ (gd kg kc : Nat) (f : ByteArray) (dv' : Value), P f ∧ M w0 B w' (({ x with dv := dv', bs := x.bs.set c x.ds.length, puts := pu k x.puts, ds := x.ds ++ [Dd.new gd kg kc k key v f] } : Wd).as ++ fr) := by
  have h1 : M w0 B w (.blk x.gw (WC (.slice (some ⟨x.tg, 0, none⟩) 64 x.tc) (.slice (some ⟨x.ug, 0, none⟩) 64 x.uc) (.slice (some ⟨x.vg, 0, none⟩) 64 x.vc) x.dv (.slice (some ⟨x.bg, 0, none⟩) 64 x.bc) x.now x.puts x.rf false x.wt false x.kp x.cv x.ov false) 58 :: .row 3 1 (.slice (some ⟨x.bg, 0, none⟩) 64 x.bc) 64 (ints x.bs) :: .row 61 1 x.dv x.ds.length (x.ds.map Dd.ptr) :: (.row 9 1 (.slice (some ⟨x.tg, 0, none⟩) 64 x.tc) 64 (strs x.T) :: .row 4 1 (.slice (some ⟨x.ug, 0, none⟩) 64 x.uc) 64 (bools x.U) :: .row 3 1 (.slice (some ⟨x.vg, 0, none⟩) 64 x.vc) 64 (ints x.V) :: (x.ds.flatMap Dd.as ++ fr))) := h
  refine (begin_gen x.gw x.bg x.bc x.ds.length c _ _ _ x.dv x.cv x.ov x.now x.puts x.rf false x.wt false x.kp false (ints x.bs) (x.ds.map Dd.ptr) k key v _ w0 w B P htab hB hc hp0 hp1 hBegin hnd h1).mono ?_
  rintro e w' ⟨he, gd, f, hP, kv, dv', hM⟩
  obtain ⟨kg, kc, rfl⟩ := As.form (hM.get (i := 1) rfl) (by omega)
  refine ⟨he, gd, kg, kc, f, dv', hP, ?_⟩
  have h2 := M.nil2 (e := 3) (z := 1) (l1 := [_, _]) hM
  have h3 := M.nil2 (e := 3) (z := 1) (l1 := [_, _, _]) h2
  have h4 := M.nil2 (e := 3) (z := 1) (l1 := [_, _, _, _]) h3
  have h5 := M.nil2 (e := 112) (z := 2) (l1 := [_, _, _, _, _]) h4
  obtain ⟨x', hx'⟩ : ∃ y : Wd, y = { x with dv := dv', bs := x.bs.set c x.ds.length, puts := pu k x.puts, ds := x.ds ++ [Dd.new gd kg kc k key v f] } := ⟨_, rfl⟩
  rw [← hx']
  have e1 : x'.as ++ fr = x'.hd ++ (x.ds.flatMap Dd.as ++ ((Dd.new gd kg kc k key v f).as ++ fr)) := by
    unfold Wd.as
    rw [show x'.ds = x.ds ++ [Dd.new gd kg kc k key v f] by rw [hx'], List.flatMap_append, List.flatMap_cons, List.flatMap_nil, List.append_nil]
    simp only [List.append_assoc]
  rw [e1]
  have e2 : (Dd.new gd kg kc k key v f).as ++ (x'.hd ++ (x.ds.flatMap Dd.as ++ fr)) = .blk gd (DC k key v f (.slice none 0 0) (.slice (some ⟨kg, 0, none⟩) 64 kc) false false 0 false 0 0 (.slice none 0 0) (.slice none 0 0) (.slice none 0 0)) 68 :: .row 3 1 (.slice (some ⟨kg, 0, none⟩) 64 kc) 64 (List.replicate 64 (.int .i64 (-1))) :: .row 3 1 (.slice none 0 0) 0 [] :: .row 3 1 (.slice none 0 0) 0 [] :: .row 3 1 (.slice none 0 0) 0 [] :: .row 112 2 (.slice none 0 0) 0 [] :: .blk x.gw (WC (.slice (some ⟨x.tg, 0, none⟩) 64 x.tc) (.slice (some ⟨x.ug, 0, none⟩) 64 x.uc) (.slice (some ⟨x.vg, 0, none⟩) 64 x.vc) dv' (.slice (some ⟨x.bg, 0, none⟩) 64 x.bc) x.now (pu k x.puts) x.rf false x.wt false x.kp x.cv x.ov false) 58 :: .row 3 1 (.slice (some ⟨x.bg, 0, none⟩) 64 x.bc) 64 ((ints x.bs).set c (.int .i64 x.ds.length)) :: .row 61 1 dv' (x.ds.length + 1) (x.ds.map Dd.ptr ++ [.pointer (some ⟨gd, 0, none⟩)]) :: (.row 9 1 (.slice (some ⟨x.tg, 0, none⟩) 64 x.tc) 64 (strs x.T) :: .row 4 1 (.slice (some ⟨x.ug, 0, none⟩) 64 x.uc) 64 (bools x.U) :: .row 3 1 (.slice (some ⟨x.vg, 0, none⟩) 64 x.vc) 64 (ints x.V) :: (x.ds.flatMap Dd.as ++ fr)) := by
    have e3 : x'.ds.map Dd.ptr = x.ds.map Dd.ptr ++ [.pointer (some ⟨gd, 0, none⟩)] := by rw [hx']; simp [Dd.ptr, Dd.new]
    have e4 : x'.ds.length = x.ds.length + 1 := by rw [hx']; simp
    have e5 : ints (List.replicate 64 (-1)) = List.replicate 64 (.int .i64 (-1)) := by simp [ints]
    obtain ⟨z, hz⟩ : ∃ z, x.ds.flatMap Dd.as ++ fr = z := ⟨_, rfl⟩
    rw [hz, ints_setx]
    unfold Wd.hd
    rw [e3, e4, ← e5]
    subst hx'
    rfl
  have h6 : M w0 B w' ((Dd.new gd kg kc k key v f).as ++ (x'.hd ++ (x.ds.flatMap Dd.as ++ fr))) := by rw [e2]; exact h5
  refine h6.perm ?_
  exact (List.Perm.append_left _ (List.perm_append_comm_assoc _ _ _)).trans (List.perm_append_comm_assoc _ _ _)
end Go.Proofs.YtjpgldeeopmbgaaDoor.Sap
