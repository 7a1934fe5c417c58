/- WHAT IS PROVED HERE: tree.rightState answers true of the states that an operation may be in. Conditions: the state is one that an operation may be in (StOk). -/
import Derived.Test.YtajobgmnmbnhiaaGreatDoorPt09
import Derived.Laws.CopyOwn
namespace Go.Proofs.YtajobgmnmbnhiaaGreatDoor.Sap
open Go.RowKit
theorem wpList_load_rowG {P : Program} {ops : Array Oper} {rest : List Oper} {o : Oper} {a : Act} {w : World} {Q : Exit → Act → World → Prop} (hw : Region.wanted o (yielded ops a.tmps) = true) (ty : TypeId) (x : Operand) (ho : o.op = .load ty x)
    (g : Nat) (hx : a.eval x = .pointer (some ⟨g, 0, none⟩)) (t : TypeId) (cs : Array Value) (fr : Nat × Nat) (d : TypeDesc) (hg : w.heap[g]? = some (.cells cs t fr))
    (hu : P.underlying ty = some d) (hd : (match d with | .struct _ | .array _ _ => true | _ => false) = true) (hi : (P.info? ty).map (·.size) = some cs.size)
    (h : wpList P ops Q rest (a.put o.dst (.agg cs)) w) : wpList P ops Q (o :: rest) a w :=
  BigFrame.wpList_want hw fun _ hK => wp_load_row ty x ho g hx t cs fr d hg hu hd hi (hK _ _ h)
theorem results_row2 {P : Program} {fn : Func} {p q : Tmp} {ty : TypeId} (h : fn.results = #[.cell p ty, .tmp q]) (tmps : Array Value) (w : World) (g : Nat) (t : TypeId) (cs : Array Value) (fr : Nat × Nat) (d : TypeDesc) (v : Value)
    (hp : tmps.getD p undef = .pointer (some ⟨g, 0, none⟩)) (hq : tmps.getD q undef = v) (hg : w.heap[g]? = some (.cells cs t fr))
    (hu : P.underlying ty = some d) (hd : (match d with | .struct _ | .array _ _ => true | _ => false) = true) (hi : (P.info? ty).map (·.size) = some cs.size) :
    (results fn tmps).run P w = .ok (.tuple #[.agg cs, v]) w := by
  have hp' : tmps[p]?.getD undef = .pointer (some ⟨g, 0, none⟩) := by simpa using hp
  have hq' : tmps[q]?.getD undef = v := by simpa using hq
  simp [results, h, hp', hq', asAddr, run_loadVar_row w g t ty cs fr d hg hu hd hi]
theorem ownsRow_setRow_below {w : World} {B g n : Nat} {e : TypeId} {v : Value} {xs : List Value} (h : w.ownsRow B e 1 v n xs) (hg : g < B) (cs : Array Value) : (w.setRow g cs).ownsRow B e 1 v n xs :=
  As.holds.kept (a := .row e 1 v n xs) (w' := w.setRow g cs) h fun k hk => by
    have := (As.holds.lt (a := .row e 1 v n xs) h hk).1
    exact setRow_other w g k cs (by omega)
theorem infoState : (Tryz.prog.info? 92).map (·.size) = some 18 := by kernel_rfl
set_option maxRecDepth 100000 in
set_option maxHeartbeats 3200000 in
theorem rightState_yes (s : St) (kv vv bv pv xv yv : Value) (w : World) (hv : StV w s kv vv bv pv xv yv) (hok : StOk s) :
    Calls Tryz.prog 80 #[.agg #[.int .i64 s.kd, .int .i64 s.key, .int .i64 s.val, .int .i64 s.step, .int .i64 s.pg, kv, vv, bv, pv, .string s.sw, .int .i64 s.ver, xv, yv, .int .i64 s.laid, .int .i64 s.lv, .int .i64 s.low, .int .i64 s.ch, .int .i64 s.pt]] w fun e w' => e = .returned (.bool true) ∧ Below w.heap.size w w' := by
  obtain ⟨ak, ck, rfl⟩ := hv.keys.len
  obtain ⟨av, cv, rfl⟩ := hv.vals.len
  obtain ⟨ab, cb, rfl⟩ := hv.bel.len
  obtain ⟨ap, cp, rfl⟩ := hv.pts.len
  obtain ⟨ax, cx, rfl⟩ := hv.sp.len
  obtain ⟨ay, cy, rfl⟩ := hv.sv.len
  have HB0 : Hid (∀ o, Below w.heap.size w (w.alloc o)) := fun o => (Below.refl _ _).alloc (Nat.le_refl _) o
  have N0 := hideIt (heap_alloc_new w (.cells #[.int .i64 s.kd, .int .i64 s.key, .int .i64 s.val, .int .i64 s.step, .int .i64 s.pg, .slice ak s.keys.length ck, .slice av s.vals.length cv, .slice ab s.bel.length cb, .slice ap s.pts.length cp, .string s.sw, .int .i64 s.ver, .slice ax s.sp.length cx, .slice ay s.sv.length cy, .int .i64 s.laid, .int .i64 s.lv, .int .i64 s.low, .int .i64 s.ch, .int .i64 s.pt] 92))
  have B0 := hideIt ((Below.refl w.heap.size w).alloc (Nat.le_refl _) (.cells #[.int .i64 s.kd, .int .i64 s.key, .int .i64 s.val, .int .i64 s.step, .int .i64 s.pg, .slice ak s.keys.length ck, .slice av s.vals.length cv, .slice ab s.bel.length cb, .slice ap s.pts.length cp, .string s.sw, .int .i64 s.ver, .slice ax s.sp.length cx, .slice ay s.sv.length cy, .int .i64 s.laid, .int .i64 s.lv, .int .i64 s.low, .int .i64 s.ch, .int .i64 s.pt] 92))
  have HV : Hid (∀ W, Below w.heap.size w W → StV W s (.slice ak s.keys.length ck) (.slice av s.vals.length cv) (.slice ab s.bel.length cb) (.slice ap s.pts.length cp) (.slice ax s.sp.length cx) (.slice ay s.sv.length cy)) := fun W hb => ⟨hv.keys.below hb, hv.vals.below hb, hv.bel.below hb, hv.pts.below hb, hv.sp.below hb, hv.sv.below hb⟩
  have HO := hideIt hok
  have hpg : decide ((64 : Int) ≤ s.pg) = false := by rw [decide_eq_false_iff_not]; have := hok.pg; omega
  have hst : (s.step == 9223372036854775807) = false := by have := hok.step.2; simp; omega
  clear hv hok HB0
  go_enter Tryz.func80, Tryz.ntmps80
  go_wp2_with fail
  refine (rightOp_any s.kd s.key s.val _).mono ?_
  rintro e w1 ⟨rfl, hb⟩
  rw [HO.out.op]
  have N1 := hideIt (block_below N0.out hb)
  have B1 := hideIt (step B0.out hb)
  clear hb N0 B0
  go_wp2_with (refine wpList_load_row rfl 92 _ rfl _ rfl 92 _ (0, 0) _ N1.out Tryz.underlying92 rfl infoState ?_)
  refine (rightScan_yes s _ _ _ _ _ _ _ (HV.out _ B1.out) HO.out).mono ?_
  rintro e w2 ⟨rfl, hb⟩
  have N2 := hideIt (block_below N1.out hb)
  have B2 := hideIt (step B1.out hb)
  clear hb N1 B1
  go_wp2_with (refine wpList_load_row rfl 92 _ rfl _ rfl 92 _ (0, 0) _ N2.out Tryz.underlying92 rfl infoState ?_)
  refine (rightSeen_yes s _ _ _ _ _ _ _ (HV.out _ B2.out) HO.out).mono ?_
  rintro e w3 ⟨rfl, hb⟩
  have N3 := hideIt (block_below N2.out hb)
  have B3 := hideIt (step B2.out hb)
  clear hb N2 B2
  go_wp2_with (refine wpList_load_row rfl 92 _ rfl _ rfl 92 _ (0, 0) _ N3.out Tryz.underlying92 rfl infoState ?_)
  refine (rightSpares_yes s _ _ _ _ _ _ _ (HV.out _ B3.out) HO.out).mono ?_
  rintro e w4 ⟨rfl, hb⟩
  have N4 := hideIt (block_below N3.out hb)
  have B4 := hideIt (step B3.out hb)
  clear hb N3 B3
  go_wp2_with (refine wpList_load_row rfl 92 _ rfl _ rfl 92 _ (0, 0) _ N4.out Tryz.underlying92 rfl infoState ?_)
  refine (rightEntry_yes s _ _ _ _ _ _ _ (HV.out _ B4.out) HO.out).mono ?_
  rintro e w5 ⟨rfl, hb⟩
  have N5 := hideIt (block_below N4.out hb)
  have B5 := hideIt (step B4.out hb)
  clear hb N4 B4
  go_wp2
  go_ret
  exact ⟨rfl, B5.out⟩
structure OwnS (w : World) (B : Nat) (s : St) (kv vv bv pv xv yv : Value) : Prop where
  keys : w.ownsRow B 3 1 kv s.keys.length (ints s.keys)
  vals : w.ownsRow B 3 1 vv s.vals.length (ints s.vals)
  bel : w.ownsRow B 3 1 bv s.bel.length (ints s.bel)
  pts : w.ownsRow B 3 1 pv s.pts.length (ints s.pts)
  sp : w.ownsRow B 3 1 xv s.sp.length (ints s.sp)
  sv : w.ownsRow B 3 1 yv s.sv.length (ints s.sv)
  keys_vals : ∀ g, kv.ownBlock = some g → vv.ownBlock = some g → False
  keys_bel : ∀ g, kv.ownBlock = some g → bv.ownBlock = some g → False
  keys_pts : ∀ g, kv.ownBlock = some g → pv.ownBlock = some g → False
  keys_sp : ∀ g, kv.ownBlock = some g → xv.ownBlock = some g → False
  keys_sv : ∀ g, kv.ownBlock = some g → yv.ownBlock = some g → False
  vals_bel : ∀ g, vv.ownBlock = some g → bv.ownBlock = some g → False
  vals_pts : ∀ g, vv.ownBlock = some g → pv.ownBlock = some g → False
  vals_sp : ∀ g, vv.ownBlock = some g → xv.ownBlock = some g → False
  vals_sv : ∀ g, vv.ownBlock = some g → yv.ownBlock = some g → False
  bel_pts : ∀ g, bv.ownBlock = some g → pv.ownBlock = some g → False
  bel_sp : ∀ g, bv.ownBlock = some g → xv.ownBlock = some g → False
  bel_sv : ∀ g, bv.ownBlock = some g → yv.ownBlock = some g → False
  pts_sp : ∀ g, pv.ownBlock = some g → xv.ownBlock = some g → False
  pts_sv : ∀ g, pv.ownBlock = some g → yv.ownBlock = some g → False
  sp_sv : ∀ g, xv.ownBlock = some g → yv.ownBlock = some g → False
theorem OwnS.below {w w' : World} {B : Nat} {s : St} {kv vv bv pv xv yv : Value} (h : OwnS w B s kv vv bv pv xv yv) (hb : Below w.heap.size w w') : OwnS w' B s kv vv bv pv xv yv :=
  ⟨owns_below h.keys hb, owns_below h.vals hb, owns_below h.bel hb, owns_below h.pts hb, owns_below h.sp hb, owns_below h.sv hb, h.keys_vals, h.keys_bel, h.keys_pts, h.keys_sp, h.keys_sv, h.vals_bel, h.vals_pts, h.vals_sp, h.vals_sv, h.bel_pts, h.bel_sp, h.bel_sv, h.pts_sp, h.pts_sv, h.sp_sv⟩
theorem OwnS.mono {w : World} {B B' : Nat} {s : St} {kv vv bv pv xv yv : Value} (h : OwnS w B s kv vv bv pv xv yv) (hb : B' ≤ B) : OwnS w B' s kv vv bv pv xv yv :=
  ⟨owns_mono h.keys hb, owns_mono h.vals hb, owns_mono h.bel hb, owns_mono h.pts hb, owns_mono h.sp hb, owns_mono h.sv hb, h.keys_vals, h.keys_bel, h.keys_pts, h.keys_sp, h.keys_sv, h.vals_bel, h.vals_pts, h.vals_sp, h.vals_sv, h.bel_pts, h.bel_sp, h.bel_sv, h.pts_sp, h.pts_sv, h.sp_sv⟩
theorem OwnS.v {w : World} {B : Nat} {s : St} {kv vv bv pv xv yv : Value} (h : OwnS w B s kv vv bv pv xv yv) : StV w s kv vv bv pv xv yv := ⟨owns_rd h.keys, owns_rd h.vals, owns_rd h.bel, owns_rd h.pts, owns_rd h.sp, owns_rd h.sv⟩
theorem OwnS.setRow {w : World} {B : Nat} {s : St} {kv vv bv pv xv yv : Value} (h : OwnS w B s kv vv bv pv xv yv) {g : Nat} (hg : g < B) (cs : Array Value) : OwnS (w.setRow g cs) B s kv vv bv pv xv yv :=
  ⟨ownsRow_setRow_below h.keys hg cs, ownsRow_setRow_below h.vals hg cs, ownsRow_setRow_below h.bel hg cs, ownsRow_setRow_below h.pts hg cs, ownsRow_setRow_below h.sp hg cs, ownsRow_setRow_below h.sv hg cs, h.keys_vals, h.keys_bel, h.keys_pts, h.keys_sp, h.keys_sv, h.vals_bel, h.vals_pts, h.vals_sp, h.vals_sv, h.bel_pts, h.bel_sp, h.bel_sv, h.pts_sp, h.pts_sv, h.sp_sv⟩
theorem OwnS.setCell {w : World} {B : Nat} {s : St} {kv vv bv pv xv yv : Value} (h : OwnS w B s kv vv bv pv xv yv) {a : Addr} (ha : a.block < B) (u : Value) : OwnS (w.setCell a u) B s kv vv bv pv xv yv :=
  ⟨ownsRow_setCell_below h.keys ha u, ownsRow_setCell_below h.vals ha u, ownsRow_setCell_below h.bel ha u, ownsRow_setCell_below h.pts ha u, ownsRow_setCell_below h.sp ha u, ownsRow_setCell_below h.sv ha u, h.keys_vals, h.keys_bel, h.keys_pts, h.keys_sp, h.keys_sv, h.vals_bel, h.vals_pts, h.vals_sp, h.vals_sv, h.bel_pts, h.bel_sp, h.bel_sv, h.pts_sp, h.pts_sv, h.sp_sv⟩
def FrR (s : St) (w' : World) (B : Nat) (e : Ending) : Prop :=
  ∃ kv vv bv pv xv yv, OwnS w' B s kv vv bv pv xv yv ∧ e = .returned (.tuple #[.agg #[.int .i64 s.kd, .int .i64 s.key, .int .i64 s.val, .int .i64 s.step, .int .i64 s.pg, kv, vv, bv, pv, .string s.sw, .int .i64 s.ver, xv, yv, .int .i64 s.laid, .int .i64 s.lv, .int .i64 s.low, .int .i64 s.ch, .int .i64 s.pt], .bool true])
def zeroS : Array Value := #[.int .i64 0, .int .i64 0, .int .i64 0, .int .i64 0, .int .i64 0, .slice none 0 0, .slice none 0 0, .slice none 0 0, .slice none 0 0, .string ⟨#[]⟩, .int .i64 0, .slice none 0 0, .slice none 0 0, .int .i64 0, .int .i64 0, .int .i64 0, .int .i64 0, .int .i64 0]
structure RF (w wk : World) (t : ByteArray) (p : Nat) (cells : Array Value) : Prop where
  rd : RdR wk (w.heap.size + 1) t p
  st : wk.heap[w.heap.size + 1 + 1]? = some (.cells cells 92 (0, 0))
  fr : wk.heap[w.heap.size]? = some (.cells zeroS 92 (0, 0))
  bl : Below w.heap.size w wk
theorem RF.sz {w wk : World} {t : ByteArray} {p : Nat} {cells : Array Value} (h : RF w wk t p cells) : w.heap.size + 3 ≤ wk.heap.size := lt_of_block h.st
theorem RF.call {w wk w1 : World} {t : ByteArray} {p p' : Nat} {cells : Array Value} (h : RF w wk t p cells) (hg : wk.grownBy w1 (some (w.heap.size + 1))) (hR : RdR w1 (w.heap.size + 1) t p') : RF w w1 t p' cells :=
  ⟨hR, block_gr h.st hg (by omega), block_gr h.fr hg (by omega), h.bl.grown hg h.bl.size (fun k hk => by cases hk; omega)⟩
theorem RF.below {w wk w1 : World} {t : ByteArray} {p : Nat} {cells : Array Value} (h : RF w wk t p cells) (hb : Below wk.heap.size wk w1) : RF w w1 t p cells :=
  ⟨block_below h.rd hb, block_below h.st hb, block_below h.fr hb, step h.bl hb⟩
theorem RF.store {w wk : World} {t : ByteArray} {p : Nat} {cells cells' : Array Value} (h : RF w wk t p cells) (i : Nat) (v : Value) (hc : cells.setIfInBounds i v = cells') : RF w (wk.setCell ⟨w.heap.size + 1 + 1, i, none⟩ v) t p cells' := by
  refine ⟨?_, ?_, ?_, h.bl.setCell (by show w.heap.size ≤ w.heap.size + 1 + 1; omega) v⟩
  · unfold RdR; rw [Below.heap_setCell _ _ _ _ (by show w.heap.size + 1 ≠ w.heap.size + 1 + 1; omega)]; exact h.rd
  · rw [Go.Joins.block_setCell h.st, hc]
  · rw [Below.heap_setCell _ _ _ _ (by show w.heap.size ≠ w.heap.size + 1 + 1; omega)]; exact h.fr
theorem RF.spot {w wk : World} {t : ByteArray} {p : Nat} {cells : Array Value} (h : RF w wk t p cells) (i : Nat) (v : Value) (hv : cells[i]? = some v) : wk.cell? ⟨w.heap.size + 1 + 1, i, none⟩ = some v ∧ wk.frozen? ⟨w.heap.size + 1 + 1, i, none⟩ = false := ⟨cellOf h.st i v hv, Go.Joins.unfrozen_of_block h.st i⟩
theorem RF.new (w : World) (t : ByteArray) : RF w (((w.alloc (.cells zeroS 92)).alloc (.cells #[.string t, .int .i64 0, .bool false] 138)).alloc (.cells zeroS 92)) t 0 zeroS := by
  refine ⟨?_, ?_, ?_, ?_⟩
  · have := heap_alloc_new (w.alloc (.cells zeroS 92)) (.cells #[.string t, .int .i64 0, .bool false] 138)
    rw [alloc_size] at this
    exact block_alloc this _
  · have := heap_alloc_new ((w.alloc (.cells zeroS 92)).alloc (.cells #[.string t, .int .i64 0, .bool false] 138)) (.cells zeroS 92)
    rw [alloc_size, alloc_size] at this
    exact this
  · exact block_alloc (block_alloc (heap_alloc_new w _) _) _
  · exact (((Below.refl _ _).alloc (Nat.le_refl _) _).alloc (by simp) _).alloc (by simp; omega) _
set_option maxRecDepth 100000 in
set_option maxHeartbeats 6400000 in
theorem readFrame_yes (s : St) (t : ByteArray) (w : World) (ht : t.data.toList = frT s) (hok : StOk s) :
    Calls Tryz.prog 59 #[.string t] w fun e w' => FrR s w' w.heap.size e ∧ Below w.heap.size w w' := by
  have HT : Hid (t.size ≤ 1000000) := by
    unfold Hid
    rw [← ba_size, ht]
    have := frT_len s hok.i
    omega
  have D0 : t.data.toList.drop 0 = nb s.kd ++ (nb s.key ++ (nb s.val ++ (nb s.step ++ (nb s.pg ++ (lst s.keys ++ (lst s.vals ++ (lst s.bel ++ (lst s.pts ++ (nb s.ver ++ (lst s.sp ++ (lst s.sv ++ (nb s.laid ++ (nb s.lv ++ (nb s.low ++ (nb s.ch ++ (nb s.pt ++ (nb (s.sw.size : Int) ++ (s.sw.data.toList)))))))))))))))))) := by rw [List.drop_zero, ht]; rfl
  clear ht
  have D1 := drop_next D0
  obtain ⟨p1, hp1⟩ : ∃ p, 0 + (nb s.kd).length = p := ⟨_, rfl⟩
  rw [hp1] at D1
  replace D0 := hideIt D0
  replace hp1 := hideIt hp1
  have D2 := drop_next D1
  obtain ⟨p2, hp2⟩ : ∃ p, p1 + (nb s.key).length = p := ⟨_, rfl⟩
  rw [hp2] at D2
  replace D1 := hideIt D1
  replace hp2 := hideIt hp2
  have D3 := drop_next D2
  obtain ⟨p3, hp3⟩ : ∃ p, p2 + (nb s.val).length = p := ⟨_, rfl⟩
  rw [hp3] at D3
  replace D2 := hideIt D2
  replace hp3 := hideIt hp3
  have D4 := drop_next D3
  obtain ⟨p4, hp4⟩ : ∃ p, p3 + (nb s.step).length = p := ⟨_, rfl⟩
  rw [hp4] at D4
  replace D3 := hideIt D3
  replace hp4 := hideIt hp4
  have D5 := drop_next D4
  obtain ⟨p5, hp5⟩ : ∃ p, p4 + (nb s.pg).length = p := ⟨_, rfl⟩
  rw [hp5] at D5
  replace D4 := hideIt D4
  replace hp5 := hideIt hp5
  have D6 := drop_next D5
  obtain ⟨p6, hp6⟩ : ∃ p, p5 + (lst s.keys).length = p := ⟨_, rfl⟩
  rw [hp6] at D6
  replace D5 := hideIt D5
  replace hp6 := hideIt hp6
  have D7 := drop_next D6
  obtain ⟨p7, hp7⟩ : ∃ p, p6 + (lst s.vals).length = p := ⟨_, rfl⟩
  rw [hp7] at D7
  replace D6 := hideIt D6
  replace hp7 := hideIt hp7
  have D8 := drop_next D7
  obtain ⟨p8, hp8⟩ : ∃ p, p7 + (lst s.bel).length = p := ⟨_, rfl⟩
  rw [hp8] at D8
  replace D7 := hideIt D7
  replace hp8 := hideIt hp8
  have D9 := drop_next D8
  obtain ⟨p9, hp9⟩ : ∃ p, p8 + (lst s.pts).length = p := ⟨_, rfl⟩
  rw [hp9] at D9
  replace D8 := hideIt D8
  replace hp9 := hideIt hp9
  have D10 := drop_next D9
  obtain ⟨p10, hp10⟩ : ∃ p, p9 + (nb s.ver).length = p := ⟨_, rfl⟩
  rw [hp10] at D10
  replace D9 := hideIt D9
  replace hp10 := hideIt hp10
  have D11 := drop_next D10
  obtain ⟨p11, hp11⟩ : ∃ p, p10 + (lst s.sp).length = p := ⟨_, rfl⟩
  rw [hp11] at D11
  replace D10 := hideIt D10
  replace hp11 := hideIt hp11
  have D12 := drop_next D11
  obtain ⟨p12, hp12⟩ : ∃ p, p11 + (lst s.sv).length = p := ⟨_, rfl⟩
  rw [hp12] at D12
  replace D11 := hideIt D11
  replace hp12 := hideIt hp12
  have D13 := drop_next D12
  obtain ⟨p13, hp13⟩ : ∃ p, p12 + (nb s.laid).length = p := ⟨_, rfl⟩
  rw [hp13] at D13
  replace D12 := hideIt D12
  replace hp13 := hideIt hp13
  have D14 := drop_next D13
  obtain ⟨p14, hp14⟩ : ∃ p, p13 + (nb s.lv).length = p := ⟨_, rfl⟩
  rw [hp14] at D14
  replace D13 := hideIt D13
  replace hp14 := hideIt hp14
  have D15 := drop_next D14
  obtain ⟨p15, hp15⟩ : ∃ p, p14 + (nb s.low).length = p := ⟨_, rfl⟩
  rw [hp15] at D15
  replace D14 := hideIt D14
  replace hp15 := hideIt hp15
  have D16 := drop_next D15
  obtain ⟨p16, hp16⟩ : ∃ p, p15 + (nb s.ch).length = p := ⟨_, rfl⟩
  rw [hp16] at D16
  replace D15 := hideIt D15
  replace hp16 := hideIt hp16
  have D17 := drop_next D16
  obtain ⟨p17, hp17⟩ : ∃ p, p16 + (nb s.pt).length = p := ⟨_, rfl⟩
  rw [hp17] at D17
  replace D16 := hideIt D16
  replace hp17 := hideIt hp17
  replace D17 := hideIt D17
  have HO := hideIt hok
  obtain ⟨n0, e0, u0⟩ := nat_of (hok.frKd)
  have E0 := hideIt e0
  clear e0
  obtain ⟨n1, e1, u1⟩ := nat_of (hok.frKey)
  have E1 := hideIt e1
  clear e1
  obtain ⟨n2, e2, u2⟩ := nat_of (hok.val)
  have E2 := hideIt e2
  clear e2
  obtain ⟨n3, e3, u3⟩ := nat_of (hok.step)
  have E3 := hideIt e3
  clear e3
  obtain ⟨n4, e4, u4⟩ := nat_of (hok.frPg)
  have E4 := hideIt e4
  clear e4
  obtain ⟨n9, e9, u9⟩ := nat_of (hok.ver)
  have E9 := hideIt e9
  clear e9
  obtain ⟨n12, e12, u12⟩ := nat_of (hok.laid)
  have E12 := hideIt e12
  clear e12
  obtain ⟨n13, e13, u13⟩ := nat_of (hok.lv)
  have E13 := hideIt e13
  clear e13
  obtain ⟨n14, e14, u14⟩ := nat_of (hok.low)
  have E14 := hideIt e14
  clear e14
  obtain ⟨n15, e15, u15⟩ := nat_of (hok.ch)
  have E15 := hideIt e15
  clear e15
  obtain ⟨n16, e16, u16⟩ := nat_of (hok.pt)
  have E16 := hideIt e16
  clear e16
  have htl := HT.out
  clear hok HT
  have F := hideIt (RF.new w t)
  go_enter Tryz.func59, Tryz.ntmps59
  have F0 := F
  go_wp2_with fail
  refine (rnum_any _ t 0 n0 _ _ F.out.rd (by have h := D0.out; rw [E0.out] at h; exact h) u0 htl).mono ?_
  rintro e w1 ⟨rfl, hR, hg⟩
  rw [← E0.out] at hR ⊢
  rw [hp1.out] at hR
  have F1 := F.out.call hg hR
  obtain ⟨q, f⟩ := F1.spot 0 _ rfl
  have F := hideIt (F1.store 0 (.int .i64 s.kd) (cells' := #[.int .i64 s.kd, .int .i64 0, .int .i64 0, .int .i64 0, .int .i64 0, .slice none 0 0, .slice none 0 0, .slice none 0 0, .slice none 0 0, .string ⟨#[]⟩, .int .i64 0, .slice none 0 0, .slice none 0 0, .int .i64 0, .int .i64 0, .int .i64 0, .int .i64 0, .int .i64 0]) rfl)
  clear hR hg F1 F0
  have F0 := F
  go_wp2_with fail
  refine (rnum_any _ t p1 n1 _ _ F.out.rd (by have h := D1.out; rw [E1.out] at h; exact h) u1 htl).mono ?_
  rintro e w2 ⟨rfl, hR, hg⟩
  rw [← E1.out] at hR ⊢
  rw [hp2.out] at hR
  have F1 := F.out.call hg hR
  obtain ⟨q, f⟩ := F1.spot 1 _ rfl
  have F := hideIt (F1.store 1 (.int .i64 s.key) (cells' := #[.int .i64 s.kd, .int .i64 s.key, .int .i64 0, .int .i64 0, .int .i64 0, .slice none 0 0, .slice none 0 0, .slice none 0 0, .slice none 0 0, .string ⟨#[]⟩, .int .i64 0, .slice none 0 0, .slice none 0 0, .int .i64 0, .int .i64 0, .int .i64 0, .int .i64 0, .int .i64 0]) rfl)
  clear hR hg F1 F0
  have F0 := F
  go_wp2_with fail
  refine (rnum_any _ t p2 n2 _ _ F.out.rd (by have h := D2.out; rw [E2.out] at h; exact h) u2 htl).mono ?_
  rintro e w3 ⟨rfl, hR, hg⟩
  rw [← E2.out] at hR ⊢
  rw [hp3.out] at hR
  have F1 := F.out.call hg hR
  obtain ⟨q, f⟩ := F1.spot 2 _ rfl
  have F := hideIt (F1.store 2 (.int .i64 s.val) (cells' := #[.int .i64 s.kd, .int .i64 s.key, .int .i64 s.val, .int .i64 0, .int .i64 0, .slice none 0 0, .slice none 0 0, .slice none 0 0, .slice none 0 0, .string ⟨#[]⟩, .int .i64 0, .slice none 0 0, .slice none 0 0, .int .i64 0, .int .i64 0, .int .i64 0, .int .i64 0, .int .i64 0]) rfl)
  clear hR hg F1 F0
  have F0 := F
  go_wp2_with fail
  refine (rnum_any _ t p3 n3 _ _ F.out.rd (by have h := D3.out; rw [E3.out] at h; exact h) u3 htl).mono ?_
  rintro e w4 ⟨rfl, hR, hg⟩
  rw [← E3.out] at hR ⊢
  rw [hp4.out] at hR
  have F1 := F.out.call hg hR
  obtain ⟨q, f⟩ := F1.spot 3 _ rfl
  have F := hideIt (F1.store 3 (.int .i64 s.step) (cells' := #[.int .i64 s.kd, .int .i64 s.key, .int .i64 s.val, .int .i64 s.step, .int .i64 0, .slice none 0 0, .slice none 0 0, .slice none 0 0, .slice none 0 0, .string ⟨#[]⟩, .int .i64 0, .slice none 0 0, .slice none 0 0, .int .i64 0, .int .i64 0, .int .i64 0, .int .i64 0, .int .i64 0]) rfl)
  clear hR hg F1 F0
  have F0 := F
  go_wp2_with fail
  refine (rnum_any _ t p4 n4 _ _ F.out.rd (by have h := D4.out; rw [E4.out] at h; exact h) u4 htl).mono ?_
  rintro e w5 ⟨rfl, hR, hg⟩
  rw [← E4.out] at hR ⊢
  rw [hp5.out] at hR
  have F1 := F.out.call hg hR
  obtain ⟨q, f⟩ := F1.spot 4 _ rfl
  have F := hideIt (F1.store 4 (.int .i64 s.pg) (cells' := #[.int .i64 s.kd, .int .i64 s.key, .int .i64 s.val, .int .i64 s.step, .int .i64 s.pg, .slice none 0 0, .slice none 0 0, .slice none 0 0, .slice none 0 0, .string ⟨#[]⟩, .int .i64 0, .slice none 0 0, .slice none 0 0, .int .i64 0, .int .i64 0, .int .i64 0, .int .i64 0, .int .i64 0]) rfl)
  clear hR hg F1 F0
  have F0 := F
  go_wp2_with fail
  refine (rlist_any _ t p5 s.keys _ _ F.out.rd D5.out (by have := HO.out.kl12; omega) HO.out.keys htl).mono ?_
  rintro e w6 ⟨xv, rfl, ho, hR, hg⟩
  obtain ⟨ak, ck, rfl⟩ := own_form ho
  rw [hp6.out] at hR
  have F1 := F.out.call hg hR
  obtain ⟨q, f⟩ := F1.spot 5 _ rfl
  have F := hideIt (F1.store 5 (.slice ak s.keys.length ck) (cells' := #[.int .i64 s.kd, .int .i64 s.key, .int .i64 s.val, .int .i64 s.step, .int .i64 s.pg, .slice ak s.keys.length ck, .slice none 0 0, .slice none 0 0, .slice none 0 0, .string ⟨#[]⟩, .int .i64 0, .slice none 0 0, .slice none 0 0, .int .i64 0, .int .i64 0, .int .i64 0, .int .i64 0, .int .i64 0]) rfl)
  have Okeys := hideIt (owns_mono ho (show w.heap.size + 1 + 1 + 1 ≤ _ from F0.out.sz))
  clear hR hg F1 ho F0
  replace Okeys := hideIt (ownsRow_setCell_below Okeys.out (a := ⟨w.heap.size + 1 + 1, 5, none⟩) (Nat.lt_succ_self _) (.slice ak s.keys.length ck))
  have F0 := F
  have Okeysz := Okeys
  go_wp2_with fail
  refine (rlist_any _ t p6 s.vals _ _ F.out.rd D6.out (by have := HO.out.kl12; have := HO.out.kl; omega) HO.out.vals htl).mono ?_
  rintro e w7 ⟨xv, rfl, ho, hR, hg⟩
  obtain ⟨av, cv, rfl⟩ := own_form ho
  rw [hp7.out] at hR
  have F1 := F.out.call hg hR
  replace Okeys := hideIt (owns_gr Okeys.out hg (by omega))
  have Skeys_vals := hideIt (own_sep Okeysz.out ho (Nat.le_refl _))
  obtain ⟨q, f⟩ := F1.spot 6 _ rfl
  have F := hideIt (F1.store 6 (.slice av s.vals.length cv) (cells' := #[.int .i64 s.kd, .int .i64 s.key, .int .i64 s.val, .int .i64 s.step, .int .i64 s.pg, .slice ak s.keys.length ck, .slice av s.vals.length cv, .slice none 0 0, .slice none 0 0, .string ⟨#[]⟩, .int .i64 0, .slice none 0 0, .slice none 0 0, .int .i64 0, .int .i64 0, .int .i64 0, .int .i64 0, .int .i64 0]) rfl)
  have Ovals := hideIt (owns_mono ho (show w.heap.size + 1 + 1 + 1 ≤ _ from F0.out.sz))
  clear hR hg F1 ho F0 Okeysz
  replace Okeys := hideIt (ownsRow_setCell_below Okeys.out (a := ⟨w.heap.size + 1 + 1, 6, none⟩) (Nat.lt_succ_self _) (.slice av s.vals.length cv))
  replace Ovals := hideIt (ownsRow_setCell_below Ovals.out (a := ⟨w.heap.size + 1 + 1, 6, none⟩) (Nat.lt_succ_self _) (.slice av s.vals.length cv))
  have F0 := F
  have Okeysz := Okeys
  have Ovalsz := Ovals
  go_wp2_with fail
  refine (rlist_any _ t p7 s.bel _ _ F.out.rd D7.out (HO.out.bl64) HO.out.belFr htl).mono ?_
  rintro e w8 ⟨xv, rfl, ho, hR, hg⟩
  obtain ⟨ab, cb, rfl⟩ := own_form ho
  rw [hp8.out] at hR
  have F1 := F.out.call hg hR
  replace Okeys := hideIt (owns_gr Okeys.out hg (by omega))
  replace Ovals := hideIt (owns_gr Ovals.out hg (by omega))
  have Skeys_bel := hideIt (own_sep Okeysz.out ho (Nat.le_refl _))
  have Svals_bel := hideIt (own_sep Ovalsz.out ho (Nat.le_refl _))
  obtain ⟨q, f⟩ := F1.spot 7 _ rfl
  have F := hideIt (F1.store 7 (.slice ab s.bel.length cb) (cells' := #[.int .i64 s.kd, .int .i64 s.key, .int .i64 s.val, .int .i64 s.step, .int .i64 s.pg, .slice ak s.keys.length ck, .slice av s.vals.length cv, .slice ab s.bel.length cb, .slice none 0 0, .string ⟨#[]⟩, .int .i64 0, .slice none 0 0, .slice none 0 0, .int .i64 0, .int .i64 0, .int .i64 0, .int .i64 0, .int .i64 0]) rfl)
  have Obel := hideIt (owns_mono ho (show w.heap.size + 1 + 1 + 1 ≤ _ from F0.out.sz))
  clear hR hg F1 ho F0 Okeysz Ovalsz
  replace Okeys := hideIt (ownsRow_setCell_below Okeys.out (a := ⟨w.heap.size + 1 + 1, 7, none⟩) (Nat.lt_succ_self _) (.slice ab s.bel.length cb))
  replace Ovals := hideIt (ownsRow_setCell_below Ovals.out (a := ⟨w.heap.size + 1 + 1, 7, none⟩) (Nat.lt_succ_self _) (.slice ab s.bel.length cb))
  replace Obel := hideIt (ownsRow_setCell_below Obel.out (a := ⟨w.heap.size + 1 + 1, 7, none⟩) (Nat.lt_succ_self _) (.slice ab s.bel.length cb))
  have F0 := F
  have Okeysz := Okeys
  have Ovalsz := Ovals
  have Obelz := Obel
  go_wp2_with fail
  refine (rlist_any _ t p8 s.pts _ _ F.out.rd D8.out (by have := HO.out.bl64; have := HO.out.bl; omega) HO.out.pts htl).mono ?_
  rintro e w9 ⟨xv, rfl, ho, hR, hg⟩
  obtain ⟨ap, cp, rfl⟩ := own_form ho
  rw [hp9.out] at hR
  have F1 := F.out.call hg hR
  replace Okeys := hideIt (owns_gr Okeys.out hg (by omega))
  replace Ovals := hideIt (owns_gr Ovals.out hg (by omega))
  replace Obel := hideIt (owns_gr Obel.out hg (by omega))
  have Skeys_pts := hideIt (own_sep Okeysz.out ho (Nat.le_refl _))
  have Svals_pts := hideIt (own_sep Ovalsz.out ho (Nat.le_refl _))
  have Sbel_pts := hideIt (own_sep Obelz.out ho (Nat.le_refl _))
  obtain ⟨q, f⟩ := F1.spot 8 _ rfl
  have F := hideIt (F1.store 8 (.slice ap s.pts.length cp) (cells' := #[.int .i64 s.kd, .int .i64 s.key, .int .i64 s.val, .int .i64 s.step, .int .i64 s.pg, .slice ak s.keys.length ck, .slice av s.vals.length cv, .slice ab s.bel.length cb, .slice ap s.pts.length cp, .string ⟨#[]⟩, .int .i64 0, .slice none 0 0, .slice none 0 0, .int .i64 0, .int .i64 0, .int .i64 0, .int .i64 0, .int .i64 0]) rfl)
  have Opts := hideIt (owns_mono ho (show w.heap.size + 1 + 1 + 1 ≤ _ from F0.out.sz))
  clear hR hg F1 ho F0 Okeysz Ovalsz Obelz
  replace Okeys := hideIt (ownsRow_setCell_below Okeys.out (a := ⟨w.heap.size + 1 + 1, 8, none⟩) (Nat.lt_succ_self _) (.slice ap s.pts.length cp))
  replace Ovals := hideIt (ownsRow_setCell_below Ovals.out (a := ⟨w.heap.size + 1 + 1, 8, none⟩) (Nat.lt_succ_self _) (.slice ap s.pts.length cp))
  replace Obel := hideIt (ownsRow_setCell_below Obel.out (a := ⟨w.heap.size + 1 + 1, 8, none⟩) (Nat.lt_succ_self _) (.slice ap s.pts.length cp))
  replace Opts := hideIt (ownsRow_setCell_below Opts.out (a := ⟨w.heap.size + 1 + 1, 8, none⟩) (Nat.lt_succ_self _) (.slice ap s.pts.length cp))
  have F0 := F
  have Okeysz := Okeys
  have Ovalsz := Ovals
  have Obelz := Obel
  have Optsz := Opts
  go_wp2_with fail
  refine (rnum_any _ t p9 n9 _ _ F.out.rd (by have h := D9.out; rw [E9.out] at h; exact h) u9 htl).mono ?_
  rintro e w10 ⟨rfl, hR, hg⟩
  rw [← E9.out] at hR ⊢
  rw [hp10.out] at hR
  have F1 := F.out.call hg hR
  replace Okeys := hideIt (owns_gr Okeys.out hg (by omega))
  replace Ovals := hideIt (owns_gr Ovals.out hg (by omega))
  replace Obel := hideIt (owns_gr Obel.out hg (by omega))
  replace Opts := hideIt (owns_gr Opts.out hg (by omega))
  obtain ⟨q, f⟩ := F1.spot 10 _ rfl
  have F := hideIt (F1.store 10 (.int .i64 s.ver) (cells' := #[.int .i64 s.kd, .int .i64 s.key, .int .i64 s.val, .int .i64 s.step, .int .i64 s.pg, .slice ak s.keys.length ck, .slice av s.vals.length cv, .slice ab s.bel.length cb, .slice ap s.pts.length cp, .string ⟨#[]⟩, .int .i64 s.ver, .slice none 0 0, .slice none 0 0, .int .i64 0, .int .i64 0, .int .i64 0, .int .i64 0, .int .i64 0]) rfl)
  clear hR hg F1 F0 Okeysz Ovalsz Obelz Optsz
  replace Okeys := hideIt (ownsRow_setCell_below Okeys.out (a := ⟨w.heap.size + 1 + 1, 10, none⟩) (Nat.lt_succ_self _) (.int .i64 s.ver))
  replace Ovals := hideIt (ownsRow_setCell_below Ovals.out (a := ⟨w.heap.size + 1 + 1, 10, none⟩) (Nat.lt_succ_self _) (.int .i64 s.ver))
  replace Obel := hideIt (ownsRow_setCell_below Obel.out (a := ⟨w.heap.size + 1 + 1, 10, none⟩) (Nat.lt_succ_self _) (.int .i64 s.ver))
  replace Opts := hideIt (ownsRow_setCell_below Opts.out (a := ⟨w.heap.size + 1 + 1, 10, none⟩) (Nat.lt_succ_self _) (.int .i64 s.ver))
  have F0 := F
  have Okeysz := Okeys
  have Ovalsz := Ovals
  have Obelz := Obel
  have Optsz := Opts
  go_wp2_with fail
  refine (rlist_any _ t p10 s.sp _ _ F.out.rd D10.out (by have := HO.out.sp2; omega) HO.out.spFr htl).mono ?_
  rintro e w11 ⟨xv, rfl, ho, hR, hg⟩
  obtain ⟨ax, cx, rfl⟩ := own_form ho
  rw [hp11.out] at hR
  have F1 := F.out.call hg hR
  replace Okeys := hideIt (owns_gr Okeys.out hg (by omega))
  replace Ovals := hideIt (owns_gr Ovals.out hg (by omega))
  replace Obel := hideIt (owns_gr Obel.out hg (by omega))
  replace Opts := hideIt (owns_gr Opts.out hg (by omega))
  have Skeys_sp := hideIt (own_sep Okeysz.out ho (Nat.le_refl _))
  have Svals_sp := hideIt (own_sep Ovalsz.out ho (Nat.le_refl _))
  have Sbel_sp := hideIt (own_sep Obelz.out ho (Nat.le_refl _))
  have Spts_sp := hideIt (own_sep Optsz.out ho (Nat.le_refl _))
  obtain ⟨q, f⟩ := F1.spot 11 _ rfl
  have F := hideIt (F1.store 11 (.slice ax s.sp.length cx) (cells' := #[.int .i64 s.kd, .int .i64 s.key, .int .i64 s.val, .int .i64 s.step, .int .i64 s.pg, .slice ak s.keys.length ck, .slice av s.vals.length cv, .slice ab s.bel.length cb, .slice ap s.pts.length cp, .string ⟨#[]⟩, .int .i64 s.ver, .slice ax s.sp.length cx, .slice none 0 0, .int .i64 0, .int .i64 0, .int .i64 0, .int .i64 0, .int .i64 0]) rfl)
  have Osp := hideIt (owns_mono ho (show w.heap.size + 1 + 1 + 1 ≤ _ from F0.out.sz))
  clear hR hg F1 ho F0 Okeysz Ovalsz Obelz Optsz
  replace Okeys := hideIt (ownsRow_setCell_below Okeys.out (a := ⟨w.heap.size + 1 + 1, 11, none⟩) (Nat.lt_succ_self _) (.slice ax s.sp.length cx))
  replace Ovals := hideIt (ownsRow_setCell_below Ovals.out (a := ⟨w.heap.size + 1 + 1, 11, none⟩) (Nat.lt_succ_self _) (.slice ax s.sp.length cx))
  replace Obel := hideIt (ownsRow_setCell_below Obel.out (a := ⟨w.heap.size + 1 + 1, 11, none⟩) (Nat.lt_succ_self _) (.slice ax s.sp.length cx))
  replace Opts := hideIt (ownsRow_setCell_below Opts.out (a := ⟨w.heap.size + 1 + 1, 11, none⟩) (Nat.lt_succ_self _) (.slice ax s.sp.length cx))
  replace Osp := hideIt (ownsRow_setCell_below Osp.out (a := ⟨w.heap.size + 1 + 1, 11, none⟩) (Nat.lt_succ_self _) (.slice ax s.sp.length cx))
  have F0 := F
  have Okeysz := Okeys
  have Ovalsz := Ovals
  have Obelz := Obel
  have Optsz := Opts
  have Ospz := Osp
  go_wp2_with fail
  refine (rlist_any _ t p11 s.sv _ _ F.out.rd D11.out (by have := HO.out.sp2; have := HO.out.spl; omega) HO.out.sv htl).mono ?_
  rintro e w12 ⟨xv, rfl, ho, hR, hg⟩
  obtain ⟨ay, cy, rfl⟩ := own_form ho
  rw [hp12.out] at hR
  have F1 := F.out.call hg hR
  replace Okeys := hideIt (owns_gr Okeys.out hg (by omega))
  replace Ovals := hideIt (owns_gr Ovals.out hg (by omega))
  replace Obel := hideIt (owns_gr Obel.out hg (by omega))
  replace Opts := hideIt (owns_gr Opts.out hg (by omega))
  replace Osp := hideIt (owns_gr Osp.out hg (by omega))
  have Skeys_sv := hideIt (own_sep Okeysz.out ho (Nat.le_refl _))
  have Svals_sv := hideIt (own_sep Ovalsz.out ho (Nat.le_refl _))
  have Sbel_sv := hideIt (own_sep Obelz.out ho (Nat.le_refl _))
  have Spts_sv := hideIt (own_sep Optsz.out ho (Nat.le_refl _))
  have Ssp_sv := hideIt (own_sep Ospz.out ho (Nat.le_refl _))
  obtain ⟨q, f⟩ := F1.spot 12 _ rfl
  have F := hideIt (F1.store 12 (.slice ay s.sv.length cy) (cells' := #[.int .i64 s.kd, .int .i64 s.key, .int .i64 s.val, .int .i64 s.step, .int .i64 s.pg, .slice ak s.keys.length ck, .slice av s.vals.length cv, .slice ab s.bel.length cb, .slice ap s.pts.length cp, .string ⟨#[]⟩, .int .i64 s.ver, .slice ax s.sp.length cx, .slice ay s.sv.length cy, .int .i64 0, .int .i64 0, .int .i64 0, .int .i64 0, .int .i64 0]) rfl)
  have Osv := hideIt (owns_mono ho (show w.heap.size + 1 + 1 + 1 ≤ _ from F0.out.sz))
  clear hR hg F1 ho F0 Okeysz Ovalsz Obelz Optsz Ospz
  replace Okeys := hideIt (ownsRow_setCell_below Okeys.out (a := ⟨w.heap.size + 1 + 1, 12, none⟩) (Nat.lt_succ_self _) (.slice ay s.sv.length cy))
  replace Ovals := hideIt (ownsRow_setCell_below Ovals.out (a := ⟨w.heap.size + 1 + 1, 12, none⟩) (Nat.lt_succ_self _) (.slice ay s.sv.length cy))
  replace Obel := hideIt (ownsRow_setCell_below Obel.out (a := ⟨w.heap.size + 1 + 1, 12, none⟩) (Nat.lt_succ_self _) (.slice ay s.sv.length cy))
  replace Opts := hideIt (ownsRow_setCell_below Opts.out (a := ⟨w.heap.size + 1 + 1, 12, none⟩) (Nat.lt_succ_self _) (.slice ay s.sv.length cy))
  replace Osp := hideIt (ownsRow_setCell_below Osp.out (a := ⟨w.heap.size + 1 + 1, 12, none⟩) (Nat.lt_succ_self _) (.slice ay s.sv.length cy))
  replace Osv := hideIt (ownsRow_setCell_below Osv.out (a := ⟨w.heap.size + 1 + 1, 12, none⟩) (Nat.lt_succ_self _) (.slice ay s.sv.length cy))
  have F0 := F
  have Okeysz := Okeys
  have Ovalsz := Ovals
  have Obelz := Obel
  have Optsz := Opts
  have Ospz := Osp
  have Osvz := Osv
  go_wp2_with fail
  refine (rnum_any _ t p12 n12 _ _ F.out.rd (by have h := D12.out; rw [E12.out] at h; exact h) u12 htl).mono ?_
  rintro e w13 ⟨rfl, hR, hg⟩
  rw [← E12.out] at hR ⊢
  rw [hp13.out] at hR
  have F1 := F.out.call hg hR
  replace Okeys := hideIt (owns_gr Okeys.out hg (by omega))
  replace Ovals := hideIt (owns_gr Ovals.out hg (by omega))
  replace Obel := hideIt (owns_gr Obel.out hg (by omega))
  replace Opts := hideIt (owns_gr Opts.out hg (by omega))
  replace Osp := hideIt (owns_gr Osp.out hg (by omega))
  replace Osv := hideIt (owns_gr Osv.out hg (by omega))
  obtain ⟨q, f⟩ := F1.spot 13 _ rfl
  have F := hideIt (F1.store 13 (.int .i64 s.laid) (cells' := #[.int .i64 s.kd, .int .i64 s.key, .int .i64 s.val, .int .i64 s.step, .int .i64 s.pg, .slice ak s.keys.length ck, .slice av s.vals.length cv, .slice ab s.bel.length cb, .slice ap s.pts.length cp, .string ⟨#[]⟩, .int .i64 s.ver, .slice ax s.sp.length cx, .slice ay s.sv.length cy, .int .i64 s.laid, .int .i64 0, .int .i64 0, .int .i64 0, .int .i64 0]) rfl)
  clear hR hg F1 F0 Okeysz Ovalsz Obelz Optsz Ospz Osvz
  replace Okeys := hideIt (ownsRow_setCell_below Okeys.out (a := ⟨w.heap.size + 1 + 1, 13, none⟩) (Nat.lt_succ_self _) (.int .i64 s.laid))
  replace Ovals := hideIt (ownsRow_setCell_below Ovals.out (a := ⟨w.heap.size + 1 + 1, 13, none⟩) (Nat.lt_succ_self _) (.int .i64 s.laid))
  replace Obel := hideIt (ownsRow_setCell_below Obel.out (a := ⟨w.heap.size + 1 + 1, 13, none⟩) (Nat.lt_succ_self _) (.int .i64 s.laid))
  replace Opts := hideIt (ownsRow_setCell_below Opts.out (a := ⟨w.heap.size + 1 + 1, 13, none⟩) (Nat.lt_succ_self _) (.int .i64 s.laid))
  replace Osp := hideIt (ownsRow_setCell_below Osp.out (a := ⟨w.heap.size + 1 + 1, 13, none⟩) (Nat.lt_succ_self _) (.int .i64 s.laid))
  replace Osv := hideIt (ownsRow_setCell_below Osv.out (a := ⟨w.heap.size + 1 + 1, 13, none⟩) (Nat.lt_succ_self _) (.int .i64 s.laid))
  have F0 := F
  have Okeysz := Okeys
  have Ovalsz := Ovals
  have Obelz := Obel
  have Optsz := Opts
  have Ospz := Osp
  have Osvz := Osv
  go_wp2_with fail
  refine (rnum_any _ t p13 n13 _ _ F.out.rd (by have h := D13.out; rw [E13.out] at h; exact h) u13 htl).mono ?_
  rintro e w14 ⟨rfl, hR, hg⟩
  rw [← E13.out] at hR ⊢
  rw [hp14.out] at hR
  have F1 := F.out.call hg hR
  replace Okeys := hideIt (owns_gr Okeys.out hg (by omega))
  replace Ovals := hideIt (owns_gr Ovals.out hg (by omega))
  replace Obel := hideIt (owns_gr Obel.out hg (by omega))
  replace Opts := hideIt (owns_gr Opts.out hg (by omega))
  replace Osp := hideIt (owns_gr Osp.out hg (by omega))
  replace Osv := hideIt (owns_gr Osv.out hg (by omega))
  obtain ⟨q, f⟩ := F1.spot 14 _ rfl
  have F := hideIt (F1.store 14 (.int .i64 s.lv) (cells' := #[.int .i64 s.kd, .int .i64 s.key, .int .i64 s.val, .int .i64 s.step, .int .i64 s.pg, .slice ak s.keys.length ck, .slice av s.vals.length cv, .slice ab s.bel.length cb, .slice ap s.pts.length cp, .string ⟨#[]⟩, .int .i64 s.ver, .slice ax s.sp.length cx, .slice ay s.sv.length cy, .int .i64 s.laid, .int .i64 s.lv, .int .i64 0, .int .i64 0, .int .i64 0]) rfl)
  clear hR hg F1 F0 Okeysz Ovalsz Obelz Optsz Ospz Osvz
  replace Okeys := hideIt (ownsRow_setCell_below Okeys.out (a := ⟨w.heap.size + 1 + 1, 14, none⟩) (Nat.lt_succ_self _) (.int .i64 s.lv))
  replace Ovals := hideIt (ownsRow_setCell_below Ovals.out (a := ⟨w.heap.size + 1 + 1, 14, none⟩) (Nat.lt_succ_self _) (.int .i64 s.lv))
  replace Obel := hideIt (ownsRow_setCell_below Obel.out (a := ⟨w.heap.size + 1 + 1, 14, none⟩) (Nat.lt_succ_self _) (.int .i64 s.lv))
  replace Opts := hideIt (ownsRow_setCell_below Opts.out (a := ⟨w.heap.size + 1 + 1, 14, none⟩) (Nat.lt_succ_self _) (.int .i64 s.lv))
  replace Osp := hideIt (ownsRow_setCell_below Osp.out (a := ⟨w.heap.size + 1 + 1, 14, none⟩) (Nat.lt_succ_self _) (.int .i64 s.lv))
  replace Osv := hideIt (ownsRow_setCell_below Osv.out (a := ⟨w.heap.size + 1 + 1, 14, none⟩) (Nat.lt_succ_self _) (.int .i64 s.lv))
  have F0 := F
  have Okeysz := Okeys
  have Ovalsz := Ovals
  have Obelz := Obel
  have Optsz := Opts
  have Ospz := Osp
  have Osvz := Osv
  go_wp2_with fail
  refine (rnum_any _ t p14 n14 _ _ F.out.rd (by have h := D14.out; rw [E14.out] at h; exact h) u14 htl).mono ?_
  rintro e w15 ⟨rfl, hR, hg⟩
  rw [← E14.out] at hR ⊢
  rw [hp15.out] at hR
  have F1 := F.out.call hg hR
  replace Okeys := hideIt (owns_gr Okeys.out hg (by omega))
  replace Ovals := hideIt (owns_gr Ovals.out hg (by omega))
  replace Obel := hideIt (owns_gr Obel.out hg (by omega))
  replace Opts := hideIt (owns_gr Opts.out hg (by omega))
  replace Osp := hideIt (owns_gr Osp.out hg (by omega))
  replace Osv := hideIt (owns_gr Osv.out hg (by omega))
  obtain ⟨q, f⟩ := F1.spot 15 _ rfl
  have F := hideIt (F1.store 15 (.int .i64 s.low) (cells' := #[.int .i64 s.kd, .int .i64 s.key, .int .i64 s.val, .int .i64 s.step, .int .i64 s.pg, .slice ak s.keys.length ck, .slice av s.vals.length cv, .slice ab s.bel.length cb, .slice ap s.pts.length cp, .string ⟨#[]⟩, .int .i64 s.ver, .slice ax s.sp.length cx, .slice ay s.sv.length cy, .int .i64 s.laid, .int .i64 s.lv, .int .i64 s.low, .int .i64 0, .int .i64 0]) rfl)
  clear hR hg F1 F0 Okeysz Ovalsz Obelz Optsz Ospz Osvz
  replace Okeys := hideIt (ownsRow_setCell_below Okeys.out (a := ⟨w.heap.size + 1 + 1, 15, none⟩) (Nat.lt_succ_self _) (.int .i64 s.low))
  replace Ovals := hideIt (ownsRow_setCell_below Ovals.out (a := ⟨w.heap.size + 1 + 1, 15, none⟩) (Nat.lt_succ_self _) (.int .i64 s.low))
  replace Obel := hideIt (ownsRow_setCell_below Obel.out (a := ⟨w.heap.size + 1 + 1, 15, none⟩) (Nat.lt_succ_self _) (.int .i64 s.low))
  replace Opts := hideIt (ownsRow_setCell_below Opts.out (a := ⟨w.heap.size + 1 + 1, 15, none⟩) (Nat.lt_succ_self _) (.int .i64 s.low))
  replace Osp := hideIt (ownsRow_setCell_below Osp.out (a := ⟨w.heap.size + 1 + 1, 15, none⟩) (Nat.lt_succ_self _) (.int .i64 s.low))
  replace Osv := hideIt (ownsRow_setCell_below Osv.out (a := ⟨w.heap.size + 1 + 1, 15, none⟩) (Nat.lt_succ_self _) (.int .i64 s.low))
  have F0 := F
  have Okeysz := Okeys
  have Ovalsz := Ovals
  have Obelz := Obel
  have Optsz := Opts
  have Ospz := Osp
  have Osvz := Osv
  go_wp2_with fail
  refine (rnum_any _ t p15 n15 _ _ F.out.rd (by have h := D15.out; rw [E15.out] at h; exact h) u15 htl).mono ?_
  rintro e w16 ⟨rfl, hR, hg⟩
  rw [← E15.out] at hR ⊢
  rw [hp16.out] at hR
  have F1 := F.out.call hg hR
  replace Okeys := hideIt (owns_gr Okeys.out hg (by omega))
  replace Ovals := hideIt (owns_gr Ovals.out hg (by omega))
  replace Obel := hideIt (owns_gr Obel.out hg (by omega))
  replace Opts := hideIt (owns_gr Opts.out hg (by omega))
  replace Osp := hideIt (owns_gr Osp.out hg (by omega))
  replace Osv := hideIt (owns_gr Osv.out hg (by omega))
  obtain ⟨q, f⟩ := F1.spot 16 _ rfl
  have F := hideIt (F1.store 16 (.int .i64 s.ch) (cells' := #[.int .i64 s.kd, .int .i64 s.key, .int .i64 s.val, .int .i64 s.step, .int .i64 s.pg, .slice ak s.keys.length ck, .slice av s.vals.length cv, .slice ab s.bel.length cb, .slice ap s.pts.length cp, .string ⟨#[]⟩, .int .i64 s.ver, .slice ax s.sp.length cx, .slice ay s.sv.length cy, .int .i64 s.laid, .int .i64 s.lv, .int .i64 s.low, .int .i64 s.ch, .int .i64 0]) rfl)
  clear hR hg F1 F0 Okeysz Ovalsz Obelz Optsz Ospz Osvz
  replace Okeys := hideIt (ownsRow_setCell_below Okeys.out (a := ⟨w.heap.size + 1 + 1, 16, none⟩) (Nat.lt_succ_self _) (.int .i64 s.ch))
  replace Ovals := hideIt (ownsRow_setCell_below Ovals.out (a := ⟨w.heap.size + 1 + 1, 16, none⟩) (Nat.lt_succ_self _) (.int .i64 s.ch))
  replace Obel := hideIt (ownsRow_setCell_below Obel.out (a := ⟨w.heap.size + 1 + 1, 16, none⟩) (Nat.lt_succ_self _) (.int .i64 s.ch))
  replace Opts := hideIt (ownsRow_setCell_below Opts.out (a := ⟨w.heap.size + 1 + 1, 16, none⟩) (Nat.lt_succ_self _) (.int .i64 s.ch))
  replace Osp := hideIt (ownsRow_setCell_below Osp.out (a := ⟨w.heap.size + 1 + 1, 16, none⟩) (Nat.lt_succ_self _) (.int .i64 s.ch))
  replace Osv := hideIt (ownsRow_setCell_below Osv.out (a := ⟨w.heap.size + 1 + 1, 16, none⟩) (Nat.lt_succ_self _) (.int .i64 s.ch))
  have F0 := F
  have Okeysz := Okeys
  have Ovalsz := Ovals
  have Obelz := Obel
  have Optsz := Opts
  have Ospz := Osp
  have Osvz := Osv
  go_wp2_with fail
  refine (rnum_any _ t p16 n16 _ _ F.out.rd (by have h := D16.out; rw [E16.out] at h; exact h) u16 htl).mono ?_
  rintro e w17 ⟨rfl, hR, hg⟩
  rw [← E16.out] at hR ⊢
  rw [hp17.out] at hR
  have F1 := F.out.call hg hR
  replace Okeys := hideIt (owns_gr Okeys.out hg (by omega))
  replace Ovals := hideIt (owns_gr Ovals.out hg (by omega))
  replace Obel := hideIt (owns_gr Obel.out hg (by omega))
  replace Opts := hideIt (owns_gr Opts.out hg (by omega))
  replace Osp := hideIt (owns_gr Osp.out hg (by omega))
  replace Osv := hideIt (owns_gr Osv.out hg (by omega))
  obtain ⟨q, f⟩ := F1.spot 17 _ rfl
  have F := hideIt (F1.store 17 (.int .i64 s.pt) (cells' := #[.int .i64 s.kd, .int .i64 s.key, .int .i64 s.val, .int .i64 s.step, .int .i64 s.pg, .slice ak s.keys.length ck, .slice av s.vals.length cv, .slice ab s.bel.length cb, .slice ap s.pts.length cp, .string ⟨#[]⟩, .int .i64 s.ver, .slice ax s.sp.length cx, .slice ay s.sv.length cy, .int .i64 s.laid, .int .i64 s.lv, .int .i64 s.low, .int .i64 s.ch, .int .i64 s.pt]) rfl)
  clear hR hg F1 F0 Okeysz Ovalsz Obelz Optsz Ospz Osvz
  replace Okeys := hideIt (ownsRow_setCell_below Okeys.out (a := ⟨w.heap.size + 1 + 1, 17, none⟩) (Nat.lt_succ_self _) (.int .i64 s.pt))
  replace Ovals := hideIt (ownsRow_setCell_below Ovals.out (a := ⟨w.heap.size + 1 + 1, 17, none⟩) (Nat.lt_succ_self _) (.int .i64 s.pt))
  replace Obel := hideIt (ownsRow_setCell_below Obel.out (a := ⟨w.heap.size + 1 + 1, 17, none⟩) (Nat.lt_succ_self _) (.int .i64 s.pt))
  replace Opts := hideIt (ownsRow_setCell_below Opts.out (a := ⟨w.heap.size + 1 + 1, 17, none⟩) (Nat.lt_succ_self _) (.int .i64 s.pt))
  replace Osp := hideIt (ownsRow_setCell_below Osp.out (a := ⟨w.heap.size + 1 + 1, 17, none⟩) (Nat.lt_succ_self _) (.int .i64 s.pt))
  replace Osv := hideIt (ownsRow_setCell_below Osv.out (a := ⟨w.heap.size + 1 + 1, 17, none⟩) (Nat.lt_succ_self _) (.int .i64 s.pt))
  have F0 := F
  have Okeysz := Okeys
  have Ovalsz := Ovals
  have Obelz := Obel
  have Optsz := Opts
  have Ospz := Osp
  have Osvz := Osv
  go_wp2_with fail
  refine (rrest_any _ t p17 s.sw _ F.out.rd D17.out (by have := HO.out.i.swL; omega) htl).mono ?_
  rintro e w18 ⟨rfl, hR, hg⟩
  have F1 := F.out.call hg hR
  replace Okeys := hideIt (owns_gr Okeys.out hg (by omega))
  replace Ovals := hideIt (owns_gr Ovals.out hg (by omega))
  replace Obel := hideIt (owns_gr Obel.out hg (by omega))
  replace Opts := hideIt (owns_gr Opts.out hg (by omega))
  replace Osp := hideIt (owns_gr Osp.out hg (by omega))
  replace Osv := hideIt (owns_gr Osv.out hg (by omega))
  obtain ⟨q, f⟩ := F1.spot 9 _ rfl
  obtain ⟨⟨c0, c1, c2⟩, -⟩ := F1.rd.cells
  have F := hideIt (F1.store 9 (.string s.sw) (cells' := #[.int .i64 s.kd, .int .i64 s.key, .int .i64 s.val, .int .i64 s.step, .int .i64 s.pg, .slice ak s.keys.length ck, .slice av s.vals.length cv, .slice ab s.bel.length cb, .slice ap s.pts.length cp, .string s.sw, .int .i64 s.ver, .slice ax s.sp.length cx, .slice ay s.sv.length cy, .int .i64 s.laid, .int .i64 s.lv, .int .i64 s.low, .int .i64 s.ch, .int .i64 s.pt]) rfl)
  clear hR hg F1 F0 Okeysz Ovalsz Obelz Optsz Ospz Osvz
  replace Okeys := hideIt (ownsRow_setCell_below Okeys.out (a := ⟨w.heap.size + 1 + 1, 9, none⟩) (Nat.lt_succ_self _) (.string s.sw))
  replace Ovals := hideIt (ownsRow_setCell_below Ovals.out (a := ⟨w.heap.size + 1 + 1, 9, none⟩) (Nat.lt_succ_self _) (.string s.sw))
  replace Obel := hideIt (ownsRow_setCell_below Obel.out (a := ⟨w.heap.size + 1 + 1, 9, none⟩) (Nat.lt_succ_self _) (.string s.sw))
  replace Opts := hideIt (ownsRow_setCell_below Opts.out (a := ⟨w.heap.size + 1 + 1, 9, none⟩) (Nat.lt_succ_self _) (.string s.sw))
  replace Osp := hideIt (ownsRow_setCell_below Osp.out (a := ⟨w.heap.size + 1 + 1, 9, none⟩) (Nat.lt_succ_self _) (.string s.sw))
  replace Osv := hideIt (ownsRow_setCell_below Osv.out (a := ⟨w.heap.size + 1 + 1, 9, none⟩) (Nat.lt_succ_self _) (.string s.sw))
  go_wp2_with (refine wpList_load_rowG rfl 92 _ rfl _ rfl 92 _ (0, 0) _ F.out.st Tryz.underlying92 rfl infoState ?_)
  refine (rightState_yes s _ _ _ _ _ _ _ ⟨owns_rd Okeys.out, owns_rd Ovals.out, owns_rd Obel.out, owns_rd Opts.out, owns_rd Osp.out, owns_rd Osv.out⟩ HO.out).mono ?_
  rintro e w20 ⟨rfl, hb⟩
  have G := hideIt (F.out.below hb)
  replace Okeys := hideIt (owns_below Okeys.out hb)
  replace Ovals := hideIt (owns_below Ovals.out hb)
  replace Obel := hideIt (owns_below Obel.out hb)
  replace Opts := hideIt (owns_below Opts.out hb)
  replace Osp := hideIt (owns_below Osp.out hb)
  replace Osv := hideIt (owns_below Osv.out hb)
  clear hb F q f c0 c1 c2
  have HST := hideIt G.out.st
  have HFR := hideIt G.out.fr
  have B := hideIt G.out.bl
  have W4 : Hid (OwnS w20 (w.heap.size + 1 + 1 + 1) s (.slice ak s.keys.length ck) (.slice av s.vals.length cv) (.slice ab s.bel.length cb) (.slice ap s.pts.length cp) (.slice ax s.sp.length cx) (.slice ay s.sv.length cy)) := ⟨Okeys.out, Ovals.out, Obel.out, Opts.out, Osp.out, Osv.out, Skeys_vals.out, Skeys_bel.out, Skeys_pts.out, Skeys_sp.out, Skeys_sv.out, Svals_bel.out, Svals_pts.out, Svals_sp.out, Svals_sv.out, Sbel_pts.out, Sbel_sp.out, Sbel_sv.out, Spts_sp.out, Spts_sv.out, Ssp_sv.out⟩
  clear G Okeys Ovals Obel Opts Osp Osv Skeys_vals Skeys_bel Skeys_pts Skeys_sp Skeys_sv Svals_bel Svals_pts Svals_sp Svals_sv Sbel_pts Sbel_sp Sbel_sv Spts_sp Spts_sv Ssp_sv
  go_wp2_with (first | (refine wpList_load_row rfl 92 _ rfl _ rfl 92 _ (0, 0) _ HST.out Tryz.underlying92 rfl infoState ?_) | (refine wpList_store_row rfl 92 _ _ rfl _ _ rfl rfl 92 _ HFR.out infoState rfl (by simp [Value.oneCell']) ?_))
  refine bodyPost_ret (v := .tuple #[.agg #[.int .i64 s.kd, .int .i64 s.key, .int .i64 s.val, .int .i64 s.step, .int .i64 s.pg, .slice ak s.keys.length ck, .slice av s.vals.length cv, .slice ab s.bel.length cb, .slice ap s.pts.length cp, .string s.sw, .int .i64 s.ver, .slice ax s.sp.length cx, .slice ay s.sv.length cy, .int .i64 s.laid, .int .i64 s.lv, .int .i64 s.low, .int .i64 s.ch, .int .i64 s.pt], .bool true]) ?_ rfl ⟨⟨_, _, _, _, _, _, ?_, rfl⟩, ?_⟩
  · exact results_row2 Tryz.results59 _ _ w.heap.size 92 _ (0, 0) _ _ rfl rfl (setRow_heap _ _ _ _ _ _ HFR.out) Tryz.underlying92 rfl infoState
  · exact OwnS.mono (B := w.heap.size + 1 + 1 + 1) (W4.out.setRow (by omega) _) (by omega)
  · exact below_setRow B.out (Nat.le_refl _) _
end Go.Proofs.YtajobgmnmbnhiaaGreatDoor.Sap
