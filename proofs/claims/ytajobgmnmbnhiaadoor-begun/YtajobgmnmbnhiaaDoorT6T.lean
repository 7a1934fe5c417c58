/- WHAT IS PROVED HERE: tree.rightState answers true of the states that an operation may be in. Conditions: the state is one that an operation may be in (StOk). -/
import Derived.Test.YtajobgmnmbnhiaaDoorT6S
import Derived.Test.YtajobgmnmbnhiaaDoorS0
import Derived.Laws.CopyOwn
namespace Go.Proofs.YtajobgmnmbnhiaaDoor.Sap
open Go.RowKit

/-- A whole variable of several cells is loaded where a guard says yes. -/
theorem wpList_load_rowG {P : Program} {ops : Array Oper} {rest : List Oper} {o : Oper} {a : Act} {w : World} {Q : Exit → Act → World → Prop} (hw : Region.wanted o (yielded ops a.tmps) = true) (ty : TypeId) (x : Operand) (ho : o.op = .load ty x)
    (g : Nat) (hx : a.eval x = .pointer (some ⟨g, 0, none⟩)) (t : TypeId) (cs : Array Value) (fr : Nat × Nat) (d : TypeDesc) (hg : w.heap[g]? = some (.cells cs t fr))
    (hu : P.underlying ty = some d) (hd : (match d with | .struct _ | .array _ _ => true | _ => false) = true) (hi : (P.info? ty).map (·.size) = some cs.size)
    (h : wpList P ops Q rest (a.put o.dst (.agg cs)) w) : wpList P ops Q (o :: rest) a w :=
  BigFrame.wpList_want hw fun _ hK => wp_load_row ty x ho g hx t cs fr d hg hu hd hi (hK _ _ h)
/-- The results of a function that answers a whole variable of several cells, and another. -/
theorem results_row2 {P : Program} {fn : Func} {p q : Tmp} {ty : TypeId} (h : fn.results = #[.cell p ty, .tmp q]) (tmps : Array Value) (w : World) (g : Nat) (t : TypeId) (cs : Array Value) (fr : Nat × Nat) (d : TypeDesc) (v : Value)
    (hp : tmps.getD p undef = .pointer (some ⟨g, 0, none⟩)) (hq : tmps.getD q undef = v) (hg : w.heap[g]? = some (.cells cs t fr))
    (hu : P.underlying ty = some d) (hd : (match d with | .struct _ | .array _ _ => true | _ => false) = true) (hi : (P.info? ty).map (·.size) = some cs.size) :
    (results fn tmps).run P w = .ok (.tuple #[.agg cs, v]) w := by
  have hp' : tmps[p]?.getD undef = .pointer (some ⟨g, 0, none⟩) := by simpa using hp
  have hq' : tmps[q]?.getD undef = v := by simpa using hq
  simp [results, h, hp', hq', asAddr, run_loadVar_row w g t ty cs fr d hg hu hd hi]
theorem ownsRow_setRow_below {w : World} {B g n : Nat} {e : TypeId} {v : Value} {xs : List Value} (h : w.ownsRow B e 1 v n xs) (hg : g < B) (cs : Array Value) : (w.setRow g cs).ownsRow B e 1 v n xs :=
  As.holds.kept (a := .row e 1 v n xs) (w' := w.setRow g cs) h fun k hk => by
    have := (As.holds.lt (a := .row e 1 v n xs) h hk).1
    exact setRow_other w g k cs (by omega)
theorem infoState : (Tryd.prog.info? 98).map (·.size) = some 18 := by kernel_rfl
set_option maxRecDepth 100000 in
set_option maxHeartbeats 3200000 in
theorem rightState_yes (s : St) (kv vv bv pv xv yv : Value) (w : World) (hv : StV w s kv vv bv pv xv yv) (hok : StOk s) :
    Calls Tryd.prog 75 #[.agg #[.int .i64 s.kd, .int .i64 s.key, .int .i64 s.val, .int .i64 s.step, .int .i64 s.pg, kv, vv, bv, pv, .string s.sw, .int .i64 s.ver, xv, yv, .int .i64 s.laid, .int .i64 s.lv, .int .i64 s.low, .int .i64 s.ch, .int .i64 s.pt]] w fun e w' => e = .returned (.bool true) ∧ Below w.heap.size w w' := by
  obtain ⟨ak, ck, rfl⟩ := hv.keys.len
  obtain ⟨av, cv, rfl⟩ := hv.vals.len
  obtain ⟨ab, cb, rfl⟩ := hv.bel.len
  obtain ⟨ap, cp, rfl⟩ := hv.pts.len
  obtain ⟨ax, cx, rfl⟩ := hv.sp.len
  obtain ⟨ay, cy, rfl⟩ := hv.sv.len
  have HB0 : Hid (∀ o, Below w.heap.size w (w.alloc o)) := fun o => (Below.refl _ _).alloc (Nat.le_refl _) o
  have N0 := hideIt (heap_alloc_new w (.cells #[.int .i64 s.kd, .int .i64 s.key, .int .i64 s.val, .int .i64 s.step, .int .i64 s.pg, .slice ak s.keys.length ck, .slice av s.vals.length cv, .slice ab s.bel.length cb, .slice ap s.pts.length cp, .string s.sw, .int .i64 s.ver, .slice ax s.sp.length cx, .slice ay s.sv.length cy, .int .i64 s.laid, .int .i64 s.lv, .int .i64 s.low, .int .i64 s.ch, .int .i64 s.pt] 98))
  have B0 := hideIt ((Below.refl w.heap.size w).alloc (Nat.le_refl _) (.cells #[.int .i64 s.kd, .int .i64 s.key, .int .i64 s.val, .int .i64 s.step, .int .i64 s.pg, .slice ak s.keys.length ck, .slice av s.vals.length cv, .slice ab s.bel.length cb, .slice ap s.pts.length cp, .string s.sw, .int .i64 s.ver, .slice ax s.sp.length cx, .slice ay s.sv.length cy, .int .i64 s.laid, .int .i64 s.lv, .int .i64 s.low, .int .i64 s.ch, .int .i64 s.pt] 98))
  have HV : Hid (∀ W, Below w.heap.size w W → StV W s (.slice ak s.keys.length ck) (.slice av s.vals.length cv) (.slice ab s.bel.length cb) (.slice ap s.pts.length cp) (.slice ax s.sp.length cx) (.slice ay s.sv.length cy)) := fun W hb => ⟨hv.keys.below hb, hv.vals.below hb, hv.bel.below hb, hv.pts.below hb, hv.sp.below hb, hv.sv.below hb⟩
  have HO := hideIt hok
  have hpg : decide ((64 : Int) ≤ s.pg) = false := by rw [decide_eq_false_iff_not]; have := hok.pg; omega
  have hst : (s.step == 9223372036854775807) = false := by have := hok.step.2; simp; omega
  clear hv hok HB0
  go_enter Tryd.func75, Tryd.ntmps75
  go_wp2_with fail
  refine (rightOp_any s.kd s.key s.val _).mono ?_
  rintro e w1 ⟨rfl, hb⟩
  rw [HO.out.op]
  have N1 := hideIt (block_below N0.out hb)
  have B1 := hideIt (step B0.out hb)
  clear hb N0 B0
  go_wp2_with (refine wpList_load_row rfl 98 _ rfl _ rfl 98 _ (0, 0) _ N1.out Tryd.underlying98 rfl infoState ?_)
  refine (rightScan_yes s _ _ _ _ _ _ _ (HV.out _ B1.out) HO.out).mono ?_
  rintro e w2 ⟨rfl, hb⟩
  have N2 := hideIt (block_below N1.out hb)
  have B2 := hideIt (step B1.out hb)
  clear hb N1 B1
  go_wp2_with (refine wpList_load_row rfl 98 _ rfl _ rfl 98 _ (0, 0) _ N2.out Tryd.underlying98 rfl infoState ?_)
  refine (rightSeen_yes s _ _ _ _ _ _ _ (HV.out _ B2.out) HO.out).mono ?_
  rintro e w3 ⟨rfl, hb⟩
  have N3 := hideIt (block_below N2.out hb)
  have B3 := hideIt (step B2.out hb)
  clear hb N2 B2
  go_wp2_with (refine wpList_load_row rfl 98 _ rfl _ rfl 98 _ (0, 0) _ N3.out Tryd.underlying98 rfl infoState ?_)
  refine (rightSpares_yes s _ _ _ _ _ _ _ (HV.out _ B3.out) HO.out).mono ?_
  rintro e w4 ⟨rfl, hb⟩
  have N4 := hideIt (block_below N3.out hb)
  have B4 := hideIt (step B3.out hb)
  clear hb N3 B3
  go_wp2_with (refine wpList_load_row rfl 98 _ rfl _ rfl 98 _ (0, 0) _ N4.out Tryd.underlying98 rfl infoState ?_)
  refine (rightEntry_yes s _ _ _ _ _ _ _ (HV.out _ B4.out) HO.out).mono ?_
  rintro e w5 ⟨rfl, hb⟩
  have N5 := hideIt (block_below N4.out hb)
  have B5 := hideIt (step B4.out hb)
  clear hb N4 B4
  go_wp2
  go_ret
  exact ⟨rfl, B5.out⟩
end Go.Proofs.YtajobgmnmbnhiaaDoor.Sap
