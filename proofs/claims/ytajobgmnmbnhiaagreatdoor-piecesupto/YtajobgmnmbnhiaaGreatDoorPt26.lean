/- WHAT IS PROVED HERE: what tree.planned answers: the change that a Put or a Drop is at. Conditions: named at each theorem. -/
import Derived.Test.YtajobgmnmbnhiaaGreatDoorPt25
import Derived.Deep.RegionHeld3
import Derived.Deep.DeepCutAuto
namespace Go.Proofs.YtajobgmnmbnhiaaGreatDoor.Sap
open Go.RowKit
def chgN (n : Nd) (s : St) : Nd := ⟨n.lv, n.lk, n.hi, chK n s.kd (wantV s), chV n s.kd (wantV s) (entV s)⟩
def crwB (n : Nd) (s : St) : Bool := crowd n.lv (chgN n s).ks.length
def midV (n : Nd) (s : St) : Nat := ((chgN n s).ks.length + 1) / 2
def lowV (n : Nd) (s : St) : Int := if crwB n s then (chgN n s).ks[midV n s]?.getD 0 else 0
def pgsN (n : Nd) (s : St) : Int := if crwB n s then pgsV s else 0
def nxtN (n : Nd) (s : St) : Nd := if crwB n s then pcN (chgN n s) (lowV n s) s else chgN n s
structure PlOk (n : Nd) (s : St) : Prop where
  un : Unp s.sw.data.toList n
  lv : n.lv = s.lv
  kd : s.kd = 2 ∨ s.kd = 3
  w0 : 0 ≤ wantV s
  w1 : wantV s ≤ 9999
  w2 : wantV s < n.hi
  laid : s.laid ≤ pgsN n s
  pc : crwB n s = true → s.laid = 0 ∨ (s.laid = 1 ∧ 0 < s.sp.length) ∨ (s.laid = 2 ∧ s.sp.length = 2)
  rt : rightB (nxtN n s) = true
theorem M.setRow {w0 w : World} {B i b : Nat} {l : List As} {c : Array Value} {t : TypeId} (h : M w0 B w l) (hi : l[i]? = some (.blk b c t)) (c' : Array Value) : M w0 B (w.setRow b c') (l.set i (.blk b c' t)) := by
  have hb := h.get hi
  refine h.upd hi ⟨rfl, rfl, rfl, by simp, fun k _ hk => setRow_other w b k c' (fun e => hk (by rw [e]; rfl))⟩ ⟨hb.1, ?_⟩ (Or.inl rfl)
  exact setRow_heap w b c c' t (0, 0) hb.2
theorem infoChange : (Tryz.prog.info? 120).map (·.size) = some 8 := by kernel_rfl
theorem rd_len {w : World} {B l c : Nat} {a : Option Addr} {xs : List Int} (h : As.holds w B (.row 3 1 (.slice a l c) l (ints xs))) (hl : xs.length = l) : Rd w (.slice a l c) xs := by
  rw [← hl] at h ⊢
  exact owns_rd h
theorem chK_le (n : Nd) (k key : Int) (hl : n.ks.length = n.vs.length) : (chK n k key).length ≤ n.ks.length + 1 := by
  have h1 := chK_eq n k key 0 hl
  have h2 := cnt3 n.ks key n.hi
  rw [h1, List.length_append, List.length_append]
  have : (if k = 2 then [key] else ([] : List Int)).length ≤ 1 := by split <;> simp
  omega
theorem tkK_le (ks : List Int) (l h : Int) (K : List Int) (k : Nat) : (tkK ks l h K k).length ≤ K.length + k := by
  induction k with
  | zero => exact Nat.le_refl _
  | succ k ih =>
    unfold tkK
    split
    · rw [List.length_append, List.length_singleton]; omega
    · omega
theorem pk_right {n : Nd} {b : ByteArray} {er : Int} (h : Pk n b er) (hr : rightB n = true) : b.data.toList = packT n ∧ er = 0 := by
  unfold Pk at h
  rw [if_pos hr] at h
  exact h
theorem piece_any (m : Nd) (mid : Nat) (s : St) (kv vv bv pv xv yv ka va : Value) (fr : List As) (w0 w : World) (B : Nat) (hmid : mid < m.ks.length)
    (h : M w0 B w fr) (hR : RowsIn s kv vv bv pv xv yv fr) (hka : .row 3 1 ka m.ks.length (ints m.ks) ∈ fr) (hva : .row 3 1 va m.vs.length (ints m.vs) ∈ fr) (hn : m.ks.length = m.vs.length) (h7 : m.ks.length ≤ 7) (hlv : 0 ≤ m.lv ∧ m.lv ≤ 9) (hsp2 : s.sp.length ≤ 2) (hpc : s.laid = 0 ∨ (s.laid = 1 ∧ 0 < s.sp.length) ∨ (s.laid = 2 ∧ s.sp.length = 2)) :
    Calls Tryz.prog 85 #[.agg #[.int .i64 m.lv, .int .i64 m.lk, .int .i64 m.hi, ka, va], .int .i64 mid, .agg #[.int .i64 s.kd, .int .i64 s.key, .int .i64 s.val, .int .i64 s.step, .int .i64 s.pg, kv, vv, bv, pv, .string s.sw, .int .i64 s.ver, xv, yv, .int .i64 s.laid, .int .i64 s.lv, .int .i64 s.low, .int .i64 s.ch, .int .i64 s.pt]] w fun e w' => ∃ kv' vv', e = .returned (.agg #[.int .i64 (pcN m (m.ks[mid]?.getD 0) s).lv, .int .i64 (pcN m (m.ks[mid]?.getD 0) s).lk, .int .i64 (pcN m (m.ks[mid]?.getD 0) s).hi, kv', vv']) ∧ (pcN m (m.ks[mid]?.getD 0) s).ks.length = (pcN m (m.ks[mid]?.getD 0) s).vs.length ∧
      M w0 B w' (.row 3 1 kv' (pcN m (m.ks[mid]?.getD 0) s).ks.length (ints (pcN m (m.ks[mid]?.getD 0) s).ks) :: .row 3 1 vv' (pcN m (m.ks[mid]?.getD 0) s).ks.length (ints (pcN m (m.ks[mid]?.getD 0) s).vs) :: fr) := by
  rcases hpc with h0 | ⟨h1, h2⟩ | ⟨h1, h2⟩
  · have e : pcN m (m.ks[mid]?.getD 0) s = rgtN m (m.ks[mid]?.getD 0) := by unfold pcN; rw [if_pos h0]
    rw [e]
    exact piece_right m mid s kv vv bv pv xv yv ka va fr w0 w B hmid h hR hka hva hn h7 h0
  · have e : pcN m (m.ks[mid]?.getD 0) s = lftN m (m.ks[mid]?.getD 0) (s.sp[0]?.getD 0) := by unfold pcN; rw [if_neg (by omega), if_pos h1]
    rw [e]
    exact piece_left m mid s kv vv bv pv xv yv ka va fr w0 w B hmid h hR hka hva hn h7 h1 h2 hsp2
  · have e : pcN m (m.ks[mid]?.getD 0) s = topN m (m.ks[mid]?.getD 0) (s.sp[1]?.getD 0) (s.sp[0]?.getD 0) := by unfold pcN; rw [if_neg (by omega), if_neg (by omega)]
    rw [e]
    exact piece_top m mid s kv vv bv pv xv yv ka va fr w0 w B hmid h hR hka hva hn h7 h1 h2 hlv
theorem yieldsIf_load_row {P : Program} {ops : Array Oper} {S : World → Prop} {op : Oper} {a : Act} (hw : Region.wanted op (yielded ops a.tmps) = true) (ty : TypeId) (x : Operand) (ho : op.op = .load ty x)
    (g : Nat) (hx : a.eval x = .pointer (some ⟨g, 0, none⟩)) (t : TypeId) (cs : Array Value) (fr : Nat × Nat) (d : TypeDesc) (hS : ∀ w, S w → w.heap[g]? = some (.cells cs t fr))
    (hu : P.underlying ty = some d) (hd : (match d with | .struct _ | .array _ _ => true | _ => false) = true) (hi : (P.info? ty).map (·.size) = some cs.size) : YieldsIf P ops S op (.agg cs) a :=
  Or.inl ⟨hw, fun w hSw => by
    unfold execOp
    simp only [ho, hx, Instr.loadAt, Instr.sureAddr, Sem.run_bind, Sem.run_pure, Result.andThen_ok, run_loadVar_row w g t ty cs fr d (hS w hSw) hu hd hi]⟩
set_option maxRecDepth 100000 in
set_option maxHeartbeats 12800000 in
theorem planned_x (n : Nd) (s : St) (kv vv bv pv xv yv : Value) (fr : List As) (w0 w : World) (B : Nat) (htab : Tab w0) (hB : B = w0.heap.size) (hok : StOk s) (hp : PlOk n s)
    (h : M w0 B w fr) (hR : RowsIn s kv vv bv pv xv yv fr) :
    Calls Tryz.prog 60 #[.agg #[.int .i64 s.kd, .int .i64 s.key, .int .i64 s.val, .int .i64 s.step, .int .i64 s.pg, kv, vv, bv, pv, .string s.sw, .int .i64 s.ver, xv, yv, .int .i64 s.laid, .int .i64 s.lv, .int .i64 s.low, .int .i64 s.ch, .int .i64 s.pt]] w fun e w' => ∃ kv' vv' T, e = .returned (.tuple #[.agg #[.int .i64 n.lv, .int .i64 n.lk, .int .i64 n.hi, kv', vv', .int .i64 (pgsN n s), .int .i64 (lowV n s), .string T], .bool true]) ∧ T.data.toList = packT (nxtN n s) ∧
      M w0 B w' (.row 3 1 kv' n.ks.length (ints n.ks) :: .row 3 1 vv' n.vs.length (ints n.vs) :: fr) := by
  obtain ⟨ak, ck, rfl⟩ := As.form0 (h.holds _ hR.keys)
  obtain ⟨av, cv, rfl⟩ := As.form0 (h.holds _ hR.vals)
  obtain ⟨ab, cb, rfl⟩ := As.form0 (h.holds _ hR.bel)
  obtain ⟨ap, cp, rfl⟩ := As.form0 (h.holds _ hR.pts)
  obtain ⟨ax, cx, rfl⟩ := As.form0 (h.holds _ hR.sp)
  obtain ⟨ay, cy, rfl⟩ := As.form0 (h.holds _ hR.sv)
  have A0 := (h.alloc #[.int .i64 s.kd, .int .i64 s.key, .int .i64 s.val, .int .i64 s.step, .int .i64 s.pg, .slice ak s.keys.length ck, .slice av s.vals.length cv, .slice ab s.bel.length cb, .slice ap s.pts.length cp, .string s.sw, .int .i64 s.ver, .slice ax s.sp.length cx, .slice ay s.sv.length cy, .int .i64 s.laid, .int .i64 s.lv, .int .i64 s.low, .int .i64 s.ch, .int .i64 s.pt] 92).alloc #[.int .i64 0, .int .i64 0, .int .i64 0, .slice none 0 0, .slice none 0 0, .int .i64 0, .int .i64 0, .string ⟨#[]⟩] 120
  rw [alloc_size] at A0
  have HP := hideIt hp
  have HOK := hideIt hok
  have HR := hideIt hR
  have HT : Hid (∀ W l, M w0 B W l → Tab W) := fun W l hm => htab.below (hB ▸ hm.bl)
  have CU := hideIt (fun W => unpack_any s.sw W (by have := hok.swL; omega))
  clear h hp hok hR htab hB
  go_enter Tryz.func60, Tryz.ntmps60
  go_upto_region 1 with fail
  generalize (w.alloc (.cells #[.int .i64 s.kd, .int .i64 s.key, .int .i64 s.val, .int .i64 s.step, .int .i64 s.pg, .slice ak s.keys.length ck, .slice av s.vals.length cv, .slice ab s.bel.length cb, .slice ap s.pts.length cp, .string s.sw, .int .i64 s.ver, .slice ax s.sp.length cx, .slice ay s.sv.length cy, .int .i64 s.laid, .int .i64 s.lv, .int .i64 s.low, .int .i64 s.ch, .int .i64 s.pt] 92)).alloc (.cells #[.int .i64 0, .int .i64 0, .int .i64 0, .slice none 0 0, .slice none 0 0, .int .i64 0, .int .i64 0, .string ⟨#[]⟩] 120) = W0 at A0 ⊢
  generalize w.heap.size = gs at A0 ⊢
  obtain ⟨gr, hgr⟩ : ∃ g, gs + 1 = g := ⟨_, rfl⟩
  rw [hgr] at A0 ⊢
  clear hgr
  replace A0 := hideIt A0
  have q9 := A0.out.cell (i := 1) rfl 9 (.string s.sw) rfl
  go_wp2_with fail
  refine (CU.out _).mono ?_
  rintro e w2 ⟨hR2, hb⟩
  refine Or.elim hR2 (fun h1 => ?_) (fun h1 => absurd HP.out.un (h1.1 n))
  clear hR2
  obtain ⟨n', kv2, vv2, hu', hO2, rfl⟩ := h1
  obtain rfl : n = n' := HP.out.un.uniq hu'
  have A3 := A0.out.join (Own.m2 hO2 hb)
  clear hO2 hb CU A0 q9 hu'
  obtain ⟨na, nc, rfl⟩ := As.form0 (A3.get (i := 0) rfl)
  obtain ⟨nva, nvc, rfl⟩ := As.form0 (A3.get (i := 1) rfl)
  have A4 := hideIt (A3.alloc #[.int .i64 n.lv, .int .i64 n.lk, .int .i64 n.hi, .slice na n.ks.length nc, .slice nva n.vs.length nvc] 67)
  clear A3
  have hb1 : (n.lv != s.lv) = false := by rw [HP.out.lv]; simp
  obtain ⟨L, hL⟩ : ∃ x, wantV s = x := ⟨_, rfl⟩
  have HL := hideIt hL
  have hLh : decide (n.hi ≤ L) = false := by rw [decide_eq_false_iff_not]; have := HP.out.w2; omega
  have hLh2 : L < n.hi := by have := HP.out.w2; omega
  clear hL
  go_upto_region 2 with fail
  generalize w2.alloc (.cells #[.int .i64 n.lv, .int .i64 n.lk, .int .i64 n.hi, .slice na n.ks.length nc, .slice nva n.vs.length nvc] 67) = W1 at A4 ⊢
  generalize w2.heap.size = gn at A4 ⊢
  go_cut [31] (fun u wy => u = .bool false ∧ Hid (M w0 B wy (.blk gn #[.int .i64 n.lv, .int .i64 n.lk, .int .i64 n.hi, .slice na n.ks.length nc, .slice nva n.vs.length nvc] 67 :: .row 3 1 (.slice na n.ks.length nc) n.ks.length (ints n.ks) :: .row 3 1 (.slice nva n.vs.length nvc) n.vs.length (ints n.vs) :: .blk gr #[.int .i64 0, .int .i64 0, .int .i64 0, .slice none 0 0, .slice none 0 0, .int .i64 0, .int .i64 0, .string ⟨#[]⟩] 120 :: .blk gs #[.int .i64 s.kd, .int .i64 s.key, .int .i64 s.val, .int .i64 s.step, .int .i64 s.pg, .slice ak s.keys.length ck, .slice av s.vals.length cv, .slice ab s.bel.length cb, .slice ap s.pts.length cp, .string s.sw, .int .i64 s.ver, .slice ax s.sp.length cx, .slice ay s.sv.length cy, .int .i64 s.laid, .int .i64 s.lv, .int .i64 s.low, .int .i64 s.ch, .int .i64 s.pt] 92 :: fr)))
  case first =>
    have zb := A4.out.block (i := 4) rfl
    have z14 := A4.out.cell (i := 4) rfl 14 (.int .i64 s.lv) rfl
    have zn0 := A4.out.cell (i := 0) rfl 0 (.int .i64 n.lv) rfl
    have zn2 := A4.out.cell (i := 0) rfl 2 (.int .i64 n.hi) rfl
    refine wp_region_noPanic ?_
    refine wp_region_held_drew (S := fun W => W.heap[gs]? = some (.cells #[.int .i64 s.kd, .int .i64 s.key, .int .i64 s.val, .int .i64 s.step, .int .i64 s.pg, .slice ak s.keys.length ck, .slice av s.vals.length cv, .slice ab s.bel.length cb, .slice ap s.pts.length cp, .string s.sw, .int .i64 s.ver, .slice ax s.sp.length cx, .slice ay s.sv.length cy, .int .i64 s.laid, .int .i64 s.lv, .int .i64 s.low, .int .i64 s.ch, .int .i64 s.pt] 92 (0, 0)) ∧ W.cell? ⟨gs, 14, none⟩ = some (.int .i64 s.lv) ∧ W.cell? ⟨gn, 0, none⟩ = some (.int .i64 n.lv) ∧ W.cell? ⟨gn, 2, none⟩ = some (.int .i64 n.hi)) (by kernel_rfl) ⟨zb, z14, zn0, zn2⟩ (fun hHeld => ?_)
    refine wpAnyH_take (i := 0) (oi := ({ dst := some 16, op := Go.Op.move (Go.Operand.tmp 5), type := 43, pos := "change.go:19", after := #[], guard := none } : Oper)) (v := ?_) rfl (by kernel_rfl) (by kernel_rfl) (by kernel_rfl) (fun _ _ _ h => h) (Or.inl ⟨by rfl, ?_⟩) (by assumption) ?_
    rotate_left 1
    · (intro w hSw; (try dsimp only at hSw); first | (go_simp; done) | (go_simp; with_reducible rfl))
    try simp only [Act.put, List.setIfInBounds_toArray, List.set_cons_zero, List.set_cons_succ]
    refine wpAnyH_take (i := 1) (oi := ({ dst := some 17, op := Go.Op.binOp Go.BinOp.neq 43 (Go.Operand.tmp 16) (Go.Operand.const (Go.Value.int Go.IntKind.i64 0)) 43, type := 4, pos := "change.go:19", after := #[{ on := 0, ground := Go.Ground.data }], guard := none } : Oper)) (v := ?_) rfl (by kernel_rfl) (by kernel_rfl) (by kernel_rfl) (fun _ _ _ h => h) (Or.inl ⟨by rfl, ?_⟩) (by assumption) ?_
    rotate_left 1
    · (intro w hSw; (try dsimp only at hSw); first | (go_simp; done) | (go_simp; with_reducible rfl))
    try simp only [Act.put, List.setIfInBounds_toArray, List.set_cons_zero, List.set_cons_succ]
    refine wpAnyH_take (i := 2) (oi := ({ dst := some 18, op := Go.Op.move (Go.Operand.tmp 17), type := 4, pos := "change.go:19", after := #[{ on := 1, ground := Go.Ground.data }], guard := none } : Oper)) (v := ?_) rfl (by kernel_rfl) (by kernel_rfl) (by kernel_rfl) (fun _ _ _ h => h) (Or.inl ⟨by rfl, ?_⟩) (by assumption) ?_
    rotate_left 1
    · (intro w hSw; (try dsimp only at hSw); first | (go_simp; done) | (go_simp; with_reducible rfl))
    try simp only [Act.put, List.setIfInBounds_toArray, List.set_cons_zero, List.set_cons_succ]
    refine wpAnyH_take (i := 3) (oi := ({ dst := some 19, op := Go.Op.fieldAddr 67 (Go.Operand.tmp 4) 0, type := 0, pos := "change.go:19", after := #[{ on := 2, ground := Go.Ground.guard }], guard := some (2, false) } : Oper)) (v := ?_) rfl (by kernel_rfl) (by kernel_rfl) (by kernel_rfl) (fun _ _ _ h => h) (Or.inl ⟨by rfl, ?_⟩) (by assumption) ?_
    rotate_left 1
    · (intro w hSw; (try dsimp only at hSw); first | (go_simp; done) | (go_simp; with_reducible rfl))
    try simp only [Act.put, List.setIfInBounds_toArray, List.set_cons_zero, List.set_cons_succ]
    refine wpAnyH_take (i := 4) (oi := ({ dst := some 20, op := Go.Op.load 3 (Go.Operand.tmp 19), type := 3, pos := "change.go:19", after := #[{ on := 3, ground := Go.Ground.data }, { on := 2, ground := Go.Ground.guard }], guard := some (2, false) } : Oper)) (v := ?_) rfl (by kernel_rfl) (by kernel_rfl) (by kernel_rfl) (fun _ _ _ h => h) (Or.inl ⟨by rfl, ?_⟩) (by assumption) ?_
    rotate_left 1
    · (intro w hSw; (try dsimp only at hSw); first | (go_simp; done) | (go_simp; with_reducible rfl))
    try simp only [Act.put, List.setIfInBounds_toArray, List.set_cons_zero, List.set_cons_succ]
    refine wpAnyH_take (i := 5) (oi := ({ dst := some 21, op := Go.Op.fieldAddr 92 (Go.Operand.tmp 1) 12, type := 0, pos := "change.go:19", after := #[{ on := 2, ground := Go.Ground.guard }], guard := some (2, false) } : Oper)) (v := ?_) rfl (by kernel_rfl) (by kernel_rfl) (by kernel_rfl) (fun _ _ _ h => h) (Or.inl ⟨by rfl, ?_⟩) (by assumption) ?_
    rotate_left 1
    · (intro w hSw; (try dsimp only at hSw); first | (go_simp; done) | (go_simp; with_reducible rfl))
    try simp only [Act.put, List.setIfInBounds_toArray, List.set_cons_zero, List.set_cons_succ]
    refine wpAnyH_take (i := 6) (oi := ({ dst := some 22, op := Go.Op.load 3 (Go.Operand.tmp 21), type := 3, pos := "change.go:19", after := #[{ on := 5, ground := Go.Ground.data }, { on := 2, ground := Go.Ground.guard }], guard := some (2, false) } : Oper)) (v := ?_) rfl (by kernel_rfl) (by kernel_rfl) (by kernel_rfl) (fun _ _ _ h => h) (Or.inl ⟨by rfl, ?_⟩) (by assumption) ?_
    rotate_left 1
    · (intro w hSw; (try dsimp only at hSw); first | (go_simp; done) | (go_simp; with_reducible rfl))
    try simp only [Act.put, List.setIfInBounds_toArray, List.set_cons_zero, List.set_cons_succ]
    refine wpAnyH_take (i := 7) (oi := ({ dst := some 23, op := Go.Op.binOp Go.BinOp.neq 3 (Go.Operand.tmp 20) (Go.Operand.tmp 22) 3, type := 4, pos := "change.go:19", after := #[{ on := 4, ground := Go.Ground.data }, { on := 6, ground := Go.Ground.data }, { on := 2, ground := Go.Ground.guard }], guard := some (2, false) } : Oper)) (v := ?_) rfl (by kernel_rfl) (by kernel_rfl) (by kernel_rfl) (fun _ _ _ h => h) (Or.inl ⟨by rfl, ?_⟩) (by assumption) ?_
    rotate_left 1
    · (intro w hSw; (try dsimp only at hSw); first | (go_simp; done) | (go_simp; with_reducible rfl))
    try simp only [Act.put, List.setIfInBounds_toArray, List.set_cons_zero, List.set_cons_succ]
    refine wpAnyH_take (i := 8) (oi := ({ dst := some 24, op := Go.Op.pick (Go.Operand.tmp 18) (Go.Operand.const (Go.Value.bool true)) (Go.Operand.tmp 23), type := 4, pos := "change.go:19", after := #[{ on := 2, ground := Go.Ground.data }, { on := 7, ground := Go.Ground.data }], guard := none } : Oper)) (v := ?_) rfl (by kernel_rfl) (by kernel_rfl) (by kernel_rfl) (fun _ _ _ h => h) (Or.inl ⟨by rfl, ?_⟩) (by assumption) ?_
    rotate_left 1
    · (intro w hSw; (try dsimp only at hSw); first | (go_simp; done) | (go_simp; with_reducible rfl))
    try simp only [Act.put, List.setIfInBounds_toArray, List.set_cons_zero, List.set_cons_succ]
    refine wpAnyH_take (i := 9) (oi := ({ dst := some 25, op := Go.Op.move (Go.Operand.tmp 24), type := 4, pos := "change.go:19", after := #[{ on := 8, ground := Go.Ground.data }, { on := 2, ground := Go.Ground.chain }], guard := none } : Oper)) (v := ?_) rfl (by kernel_rfl) (by kernel_rfl) (by kernel_rfl) (fun _ _ _ h => h) (Or.inl ⟨by rfl, ?_⟩) (by assumption) ?_
    rotate_left 1
    · (intro w hSw; (try dsimp only at hSw); first | (go_simp; done) | (go_simp; with_reducible rfl))
    try simp only [Act.put, List.setIfInBounds_toArray, List.set_cons_zero, List.set_cons_succ]
    refine wpAnyH_take (i := 12) (oi := ({ dst := some 28, op := Go.Op.fieldAddr 67 (Go.Operand.tmp 4) 2, type := 0, pos := "change.go:19", after := #[{ on := 9, ground := Go.Ground.guard }], guard := some (9, false) } : Oper)) (v := ?_) rfl (by kernel_rfl) (by kernel_rfl) (by kernel_rfl) (fun _ _ _ h => h) (Or.inl ⟨by rfl, ?_⟩) (by assumption) ?_
    rotate_left 1
    · (intro w hSw; (try dsimp only at hSw); first | (go_simp; done) | (go_simp; with_reducible rfl))
    try simp only [Act.put, List.setIfInBounds_toArray, List.set_cons_zero, List.set_cons_succ]
    refine wpAnyH_take (i := 13) (oi := ({ dst := some 29, op := Go.Op.load 3 (Go.Operand.tmp 28), type := 3, pos := "change.go:19", after := #[{ on := 12, ground := Go.Ground.data }, { on := 9, ground := Go.Ground.guard }], guard := some (9, false) } : Oper)) (v := ?_) rfl (by kernel_rfl) (by kernel_rfl) (by kernel_rfl) (fun _ _ _ h => h) (Or.inl ⟨by rfl, ?_⟩) (by assumption) ?_
    rotate_left 1
    · (intro w hSw; (try dsimp only at hSw); first | (go_simp; done) | (go_simp; with_reducible rfl))
    try simp only [Act.put, List.setIfInBounds_toArray, List.set_cons_zero, List.set_cons_succ]
    refine wpAnyH_take (i := 10) (oi := ({ dst := some 26, op := Go.Op.load 92 (Go.Operand.tmp 1), type := 92, pos := "change.go:19", after := #[{ on := 9, ground := Go.Ground.guard }], guard := some (9, false) } : Oper)) (v := .agg #[.int .i64 s.kd, .int .i64 s.key, .int .i64 s.val, .int .i64 s.step, .int .i64 s.pg, .slice ak s.keys.length ck, .slice av s.vals.length cv, .slice ab s.bel.length cb, .slice ap s.pts.length cp, .string s.sw, .int .i64 s.ver, .slice ax s.sp.length cx, .slice ay s.sv.length cy, .int .i64 s.laid, .int .i64 s.lv, .int .i64 s.low, .int .i64 s.ch, .int .i64 s.pt]) rfl (by kernel_rfl) (by kernel_rfl) (by kernel_rfl) (fun _ _ _ h => h) (yieldsIf_load_row (by rfl) _ _ rfl gs rfl 92 #[.int .i64 s.kd, .int .i64 s.key, .int .i64 s.val, .int .i64 s.step, .int .i64 s.pg, .slice ak s.keys.length ck, .slice av s.vals.length cv, .slice ab s.bel.length cb, .slice ap s.pts.length cp, .string s.sw, .int .i64 s.ver, .slice ax s.sp.length cx, .slice ay s.sv.length cy, .int .i64 s.laid, .int .i64 s.lv, .int .i64 s.low, .int .i64 s.ch, .int .i64 s.pt] (0, 0) _ (fun w hSw => hSw.1) Tryz.underlying92 rfl infoState) (by assumption) ?_
    try simp only [Act.put, List.setIfInBounds_toArray, List.set_cons_zero, List.set_cons_succ]
    refine wpAnyH_ready (rs := [11]) (by kernel_rfl) (by simp) ?_
    refine AllReadyH.cons (o := ({ dst := some 27, op := Go.Op.call { callee := Go.Callee.value (Go.Operand.func 81), args := #[Go.Operand.tmp 26], argTypes := #[92] }, type := 3, pos := "change.go:19", after := #[{ on := 10, ground := Go.Ground.data }, { on := 9, ground := Go.Ground.chain }, { on := 9, ground := Go.Ground.guard }], guard := some (9, false) } : Oper)) rfl (fun K hK => ?_) AllReadyH.nil
    go_simp
    refine (wanted_any s _ _ _ _ _ _ _ (HR.out.stv A4.out.drew (fun a ha => by simp [ha])) HOK.out.i).mono ?_
    rintro e w9 ⟨rfl, hb9⟩
    rw [HL.out]
    have hm9 := A4.out.drew.below hb9
    have yb := hm9.block (i := 4) rfl
    have y14 := hm9.cell (i := 4) rfl 14 (.int .i64 s.lv) rfl
    have yn0 := hm9.cell (i := 0) rfl 0 (.int .i64 n.lv) rfl
    have yn2 := hm9.cell (i := 0) rfl 2 (.int .i64 n.hi) rfl
    have H9 := hideIt hm9
    clear hb9 hm9
    go_wp2_with fail
    refine hK.out _ _ ⟨yb, y14, yn0, yn2⟩ (fun hHeld2 => ?_)
    clear hK K
    try simp only [Act.put, List.setIfInBounds_toArray, List.set_cons_zero, List.set_cons_succ]
    refine wpAnyH_take (i := 14) (oi := ({ dst := some 30, op := Go.Op.binOp Go.BinOp.geq 3 (Go.Operand.tmp 27) (Go.Operand.tmp 29) 3, type := 4, pos := "change.go:19", after := #[{ on := 11, ground := Go.Ground.data }, { on := 13, ground := Go.Ground.data }, { on := 9, ground := Go.Ground.guard }], guard := some (9, false) } : Oper)) (v := ?_) rfl (by kernel_rfl) (by kernel_rfl) (by kernel_rfl) (fun _ _ _ h => h) (Or.inl ⟨by rfl, ?_⟩) (by assumption) ?_
    rotate_left 1
    · (intro w hSw; (try dsimp only at hSw); first | (go_simp; done) | (go_simp; with_reducible rfl))
    try simp only [Act.put, List.setIfInBounds_toArray, List.set_cons_zero, List.set_cons_succ]
    refine wpAnyH_take (i := 15) (oi := ({ dst := some 31, op := Go.Op.pick (Go.Operand.tmp 25) (Go.Operand.const (Go.Value.bool true)) (Go.Operand.tmp 30), type := 4, pos := "change.go:19", after := #[{ on := 9, ground := Go.Ground.data }, { on := 14, ground := Go.Ground.data }], guard := none } : Oper)) (v := ?_) rfl (by kernel_rfl) (by kernel_rfl) (by kernel_rfl) (fun _ _ _ h => h) (Or.inl ⟨by rfl, ?_⟩) (by assumption) ?_
    rotate_left 1
    · (intro w hSw; (try dsimp only at hSw); first | (go_simp; done) | (go_simp; with_reducible rfl))
    try simp only [Act.put, List.setIfInBounds_toArray, List.set_cons_zero, List.set_cons_succ]
    refine wpAnyH_done (by kernel_rfl) ?_ _
    refine NoPanic.normal ?_
    go_wp2
    go_meet
    case rel => exact ⟨rfl, H9.out⟩
  case rest =>
  obtain ⟨rfl, hM⟩ := hcut
  clear A4
  have hrb := right_bd n HP.out.un.1
  have HRB := hideIt hrb
  clear hrb
  have A5 := hM.out.alloc #[.int .i64 n.lv, .int .i64 n.lk, .int .i64 n.hi, .slice na n.ks.length nc, .slice nva n.vs.length nvc, .int .i64 0, .int .i64 0, .string ⟨#[]⟩] 120
  have A5 := hideIt A5
  have n0 := hM.out.cell (i := 0) rfl 0 (.int .i64 n.lv) rfl
  have n1 := hM.out.cell (i := 0) rfl 1 (.int .i64 n.lk) rfl
  have n2 := hM.out.cell (i := 0) rfl 2 (.int .i64 n.hi) rfl
  have n3 := hM.out.cell (i := 0) rfl 3 (.slice na n.ks.length nc) rfl
  have n4 := hM.out.cell (i := 0) rfl 4 (.slice nva n.vs.length nvc) rfl
  have hlgn := hM.out.lt (i := 0) rfl
  have hlgs := hM.out.lt (i := 4) rfl
  have CT := hideIt (changed_any n s _ _ _ _ _ _ (.slice na n.ks.length nc) (.slice nva n.vs.length nvc) _ w0 _ B HOK.out.i HP.out.kd HP.out.w0 HP.out.w1 A5.out (HR.out.sub (fun a ha => by simp [ha])) (by simp) (by simp) HRB.out.2.2.2.1 HRB.out.2.2.2.2.1 (by have := tkK_le n.ks 0 (wantV s) [] n.ks.length; have := HRB.out.2.2.2.2.1; simp only [List.length_nil] at *; omega))
  clear hM
  go_wp2_with (refine wpList_load_row rfl 92 _ rfl _ rfl 92 _ (0, 0) _ (A5.out.block (i := 5) rfl) Tryz.underlying92 rfl infoState ?_)
  refine CT.out.mono ?_
  rintro e w3 ⟨kv3, vv3, l, rfl, hl1, hl2, hl3, hM3⟩
  obtain ⟨gc, hgc⟩ : ∃ g, wc.heap.size = g := ⟨_, rfl⟩
  rw [hgc] at hM3 ⊢
  obtain ⟨ka3, kc3, rfl⟩ := As.form0 (hM3.get (i := 0) rfl)
  obtain ⟨va3, vc3, rfl⟩ := As.form0 (hM3.get (i := 1) rfl)
  have HL1 := hideIt (And.intro hl1 hl2)
  have A6 := hideIt (hM3.alloc #[.int .i64 n.lv, .int .i64 n.lk, .int .i64 n.hi, .slice ka3 l kc3, .slice va3 l vc3] 67)
  clear CT A5 n0 n1 n2 n3 n4 hlgn hlgs hgc hM3 hl1 hl2
  obtain ⟨gx, hgx⟩ : ∃ g, w3.heap.size = g := ⟨_, rfl⟩
  rw [hgx] at A6
  have HGX := hideIt hgx
  clear hgx
  have x0 := A6.out.cell (i := 0) rfl 0 (.int .i64 n.lv) rfl
  have x1 := A6.out.cell (i := 0) rfl 1 (.int .i64 n.lk) rfl
  have x2 := A6.out.cell (i := 0) rfl 2 (.int .i64 n.hi) rfl
  have x3 := A6.out.cell (i := 0) rfl 3 (.slice ka3 l kc3) rfl
  have x4 := A6.out.cell (i := 0) rfl 4 (.slice va3 l vc3) rfl
  obtain ⟨cb, hcb⟩ : ∃ b, crowd n.lv l = b := ⟨_, rfl⟩
  have HCB : Hid (crwB n s = cb) := by
    unfold Hid crwB
    show crowd n.lv (chK n s.kd (wantV s)).length = cb
    rw [HL1.out.1]; exact hcb
  go_upto_region 6 with fail
  rw [HGX.out]
  generalize w3.alloc (.cells #[.int .i64 n.lv, .int .i64 n.lk, .int .i64 n.hi, .slice ka3 l kc3, .slice va3 l vc3] 67) = W3 at A6 x0 x1 x2 x3 x4 ⊢
  go_wp2_with fail
  refine (crowded_any n.lv n.lk n.hi l ka3 va3 kc3 l vc3 _ (by omega)).mono ?_
  rintro e w4 ⟨rfl, hb⟩
  rw [hcb]
  have A7 := hideIt (A6.out.below hb)
  clear A6 x0 x1 x2 x3 x4 hb hcb
  cases cb
  case false =>
    have HPG : Hid (pgsN n s = 0 ∧ lowV n s = 0 ∧ nxtN n s = chgN n s) := by
      unfold Hid pgsN lowV nxtN
      rw [HCB.out]
      exact ⟨rfl, rfl, rfl⟩
    have hld : s.laid ≤ 0 := by have := HP.out.laid; rw [HPG.out.1] at this; exact this
    have hld2 : decide (0 < s.laid) = false := by rw [decide_eq_false_iff_not]; omega
    have q13 := A7.out.cell (i := 8) rfl 13 (.int .i64 s.laid) rfl
    have c5 := A7.out.cell (i := 3) rfl 5 (.int .i64 0) rfl
    have x0 := A7.out.cell (i := 0) rfl 0 (.int .i64 n.lv) rfl
    have x1 := A7.out.cell (i := 0) rfl 1 (.int .i64 n.lk) rfl
    have x2 := A7.out.cell (i := 0) rfl 2 (.int .i64 n.hi) rfl
    have x3 := A7.out.cell (i := 0) rfl 3 (.slice ka3 l kc3) rfl
    have x4 := A7.out.cell (i := 0) rfl 4 (.slice va3 l vc3) rfl
    have r1 : Rd w4 (.slice ka3 l kc3) (chgN n s).ks := rd_len (A7.out.get (i := 1) rfl) HL1.out.1
    have r2 : Rd w4 (.slice va3 l vc3) (chgN n s).vs := rd_len (A7.out.get (i := 2) rfl) HL1.out.2
    have CP := hideIt (pack_any (chgN n s) _ _ w4 (HT.out _ _ A7.out) r1 r2 (by have := HL1.out.1; show (chK n s.kd (wantV s)).length ≤ _; omega) (by have := HL1.out.2; show (chV n s.kd (wantV s) (entV s)).length ≤ _; omega))
    rw [show (chgN n s).lv = n.lv from rfl, show (chgN n s).lk = n.lk from rfl, show (chgN n s).hi = n.hi from rfl] at CP
    clear r1 r2
    go_wp2_with fail
    refine CP.out.mono ?_
    rintro e w5 ⟨b5, er, rfl, hpk, hsz, hb5⟩
    obtain ⟨hpk1, rfl⟩ := pk_right hpk (by have := HP.out.rt; rw [HPG.out.2.2] at this; exact this)
    have HPK : Hid (b5.data.toList = packT (nxtN n s)) := by unfold Hid; rw [HPG.out.2.2]; exact hpk1
    have A8 := hideIt (A7.out.below hb5)
    clear A7 CP hpk hpk1 hsz hb5 x0 x1 x2 x3 x4 q13 c5
    have c7 := A8.out.cell (i := 3) rfl 7 (.string ⟨#[]⟩) rfl
    have f7 := A8.out.free (i := 3) rfl 7
    have A9 := hideIt (A8.out.store (i := 3) (j := 7) rfl (.string b5) (c' := #[.int .i64 n.lv, .int .i64 n.lk, .int .i64 n.hi, .slice na n.ks.length nc, .slice nva n.vs.length nvc, .int .i64 0, .int .i64 0, .string b5]) rfl)
    have hlr := A8.out.lt (i := 7) rfl
    clear A8
    have HFR := hideIt (A9.out.block (i := 7) rfl)
    have AF := hideIt (A9.out.setRow (i := 7) rfl #[.int .i64 n.lv, .int .i64 n.lk, .int .i64 n.hi, .slice na n.ks.length nc, .slice nva n.vs.length nvc, .int .i64 0, .int .i64 0, .string b5])
    go_wp2_with (first | (refine wpList_load_row rfl 120 _ rfl _ rfl 120 _ (0, 0) _ (A9.out.block (i := 3) rfl) Tryz.underlying120 rfl infoChange ?_) | (refine wpList_store_row rfl 120 _ _ rfl _ _ rfl rfl 120 _ HFR.out infoChange rfl (by simp [Value.oneCell']) ?_))
    refine bodyPost_ret (v := .tuple #[.agg #[.int .i64 n.lv, .int .i64 n.lk, .int .i64 n.hi, .slice na n.ks.length nc, .slice nva n.vs.length nvc, .int .i64 0, .int .i64 0, .string b5], .bool true]) ?_ rfl ?_
    · exact results_row2 Tryz.results60 _ _ gr 120 _ (0, 0) _ _ rfl rfl (setRow_heap _ _ _ _ _ _ HFR.out) Tryz.underlying120 rfl infoChange
    · rw [HPG.out.1, HPG.out.2.1]
      exact ⟨_, _, b5, rfl, HPK.out, AF.out.sub (.cons _ (.cons _ (.cons _ (.cons _ (.cons _ (.cons_cons _ (.cons_cons _ (.cons _ (.cons _ (List.Sublist.refl _))))))))))⟩
  case true =>
  have h67 : l = 6 ∨ l = 7 := by
    have h1 := HCB.out
    unfold crwB crowd at h1
    have h2 : (chgN n s).ks.length = l := HL1.out.1
    rw [h2] at h1
    have h3 := chK_le n s.kd (wantV s) HRB.out.2.2.2.1
    rw [HL1.out.1] at h3
    have h4 := HRB.out.2.2.2.2.1
    have h5 := HRB.out.2.2.2.2.2.1
    split at h1
    · have := of_decide_eq_true h1; have := h5 (by assumption); omega
    · have := of_decide_eq_true h1; omega
  rcases h67 with rfl | rfl
  · have HLEN : Hid ((chgN n s).ks.length = 6 ∧ (chgN n s).vs.length = 6) := HL1.out
    have rk : Rd w4 (.slice ka3 6 kc3) (chgN n s).ks := rd_len (A7.out.get (i := 1) rfl) HLEN.out.1
    obtain ⟨b1, o1, rfl, -, x1'⟩ := rk.elem 3 (by omega)
    have hlb1 := rk.blk_lt 3 (by omega)
    obtain ⟨low, hlow⟩ : ∃ x, (chgN n s).ks[3]?.getD 0 = x := ⟨_, rfl⟩
    have HLOW := hideIt hlow
    have HX1 := hideIt x1'
    have HMV : Hid (midV n s = 3) := by unfold Hid midV; rw [HLEN.out.1]
    have HPG : Hid (pgsN n s = pgsV s ∧ lowV n s = low ∧ nxtN n s = pcN (chgN n s) low s) := by
      have e : lowV n s = low := by unfold lowV; rw [HCB.out, HMV.out, if_pos rfl]; exact HLOW.out
      unfold Hid pgsN nxtN
      rw [HCB.out, e]
      exact ⟨rfl, rfl, rfl⟩
    have hld : s.laid ≤ pgsV s := by have := HP.out.laid; rw [HPG.out.1] at this; exact this
    have hld2 : decide (pgsV s < s.laid) = false := by rw [decide_eq_false_iff_not]; omega
    clear rk x1' hlow
    have x0 := A7.out.cell (i := 0) rfl 0 (.int .i64 n.lv) rfl
    have x1 := A7.out.cell (i := 0) rfl 1 (.int .i64 n.lk) rfl
    have x2 := A7.out.cell (i := 0) rfl 2 (.int .i64 n.hi) rfl
    have x3 := A7.out.cell (i := 0) rfl 3 (.slice (some ⟨b1, o1, none⟩) 6 kc3) rfl
    have x4 := A7.out.cell (i := 0) rfl 4 (.slice va3 6 vc3) rfl
    go_wp2_with (refine wpList_load_row rfl 92 _ rfl _ rfl 92 _ (0, 0) _ (A7.out.block (i := 8) rfl) Tryz.underlying92 rfl infoState ?_)
    refine (pagesToSplit_any s _ _ _ _ _ _ _ (HR.out.stv A7.out (fun a ha => by simp [ha]))).mono ?_
    rintro e w5 ⟨rfl, hb⟩
    have y2 := HX1.out _ hb
    rw [HLOW.out] at y2
    have A8 := hideIt (A7.out.below hb)
    clear A7 hb x0 x1 x2 x3 x4 HX1
    have c5 := A8.out.cell (i := 3) rfl 5 (.int .i64 0) rfl
    have f5 := A8.out.free (i := 3) rfl 5
    have hgc1 : gc ≠ b1 := A8.out.neMem (i := 3) rfl (show As.row 3 1 (.slice (some ⟨b1, o1, none⟩) 6 kc3) 6 (ints (chK n s.kd (wantV s))) ∈ _ by simp)
    have hgc2 : b1 ≠ gc := fun e => hgc1 e.symm
    have A9 := hideIt (A8.out.store (i := 3) (j := 5) rfl (.int .i64 (pgsV s)) (c' := #[.int .i64 n.lv, .int .i64 n.lk, .int .i64 n.hi, .slice na n.ks.length nc, .slice nva n.vs.length nvc, .int .i64 (pgsV s), .int .i64 0, .string ⟨#[]⟩]) rfl)
    have z3 := A9.out.cell (i := 0) rfl 3 (.slice (some ⟨b1, o1, none⟩) 6 kc3) rfl
    have c6 := A9.out.cell (i := 3) rfl 6 (.int .i64 0) rfl
    have f6 := A9.out.free (i := 3) rfl 6
    have hlgc := A8.out.lt (i := 3) rfl
    have A10 := hideIt (A9.out.store (i := 3) (j := 6) rfl (.int .i64 low) (c' := #[.int .i64 n.lv, .int .i64 n.lk, .int .i64 n.hi, .slice na n.ks.length nc, .slice nva n.vs.length nvc, .int .i64 (pgsV s), .int .i64 low, .string ⟨#[]⟩]) rfl)
    have x0 := A10.out.cell (i := 0) rfl 0 (.int .i64 n.lv) rfl
    have x1 := A10.out.cell (i := 0) rfl 1 (.int .i64 n.lk) rfl
    have x2 := A10.out.cell (i := 0) rfl 2 (.int .i64 n.hi) rfl
    have x3 := A10.out.cell (i := 0) rfl 3 (.slice (some ⟨b1, o1, none⟩) 6 kc3) rfl
    have x4 := A10.out.cell (i := 0) rfl 4 (.slice va3 6 vc3) rfl
    have CP := piece_any (chgN n s) 3 s _ _ _ _ _ _ (.slice (some ⟨b1, o1, none⟩) 6 kc3) (.slice va3 6 vc3) _ w0 _ B (by rw [HLEN.out.1]; omega) A10.out (HR.out.sub (fun a ha => by simp [ha])) (by rw [HLEN.out.1]; simp [chgN]) (by rw [HLEN.out.2]; simp [chgN]) (by rw [HLEN.out.1, HLEN.out.2]) (by rw [HLEN.out.1]; omega) ⟨HRB.out.1, HRB.out.2.1⟩ HOK.out.sp2 (HP.out.pc HCB.out)
    rw [HLOW.out] at CP
    obtain ⟨pn, hpn⟩ : ∃ x, pcN (chgN n s) low s = x := ⟨_, rfl⟩
    rw [hpn] at CP
    obtain ⟨pl, hpl⟩ : ∃ x, pn.ks.length = x := ⟨_, rfl⟩
    rw [hpl, show (chgN n s).lv = n.lv from rfl, show (chgN n s).lk = n.lk from rfl, show (chgN n s).hi = n.hi from rfl] at CP
    have HPN := hideIt hpn
    have HPL := hideIt hpl
    have CPc := hideIt CP
    clear CP hpn hpl A8
    go_wp2_with (refine wpList_load_row rfl 92 _ rfl _ rfl 92 _ (0, 0) _ (A10.out.block (i := 8) rfl) Tryz.underlying92 rfl infoState ?_)
    refine CPc.out.mono ?_
    rintro e w6 ⟨kv4, vv4, rfl, hpl2, hM6⟩
    obtain ⟨ka4, kc4, rfl⟩ := As.form0 (hM6.get (i := 0) rfl)
    obtain ⟨va4, vc4, rfl⟩ := As.form0 (hM6.get (i := 1) rfl)
    have HPL2 := hideIt hpl2
    have A11 := hideIt hM6
    clear CPc A9 A10 hM6 x0 x1 x2 x3 x4 y2 z3 c5 c6 f5 f6 hpl2
    have v0 := A11.out.cell (i := 2) rfl 0 (.int .i64 n.lv) rfl
    have v1 := A11.out.cell (i := 2) rfl 1 (.int .i64 n.lk) rfl
    have v2 := A11.out.cell (i := 2) rfl 2 (.int .i64 n.hi) rfl
    have v3 := A11.out.cell (i := 2) rfl 3 (.slice (some ⟨b1, o1, none⟩) 6 kc3) rfl
    have v4 := A11.out.cell (i := 2) rfl 4 (.slice va3 6 vc3) rfl
    have g0 := A11.out.free (i := 2) rfl 0
    have g1 := A11.out.free (i := 2) rfl 1
    have g2 := A11.out.free (i := 2) rfl 2
    have g3 := A11.out.free (i := 2) rfl 3
    have g4 := A11.out.free (i := 2) rfl 4
    have S5 := hideIt (A11.out.store5 (i := 2) rfl (.int .i64 pn.lv) (.int .i64 pn.lk) (.int .i64 pn.hi) (.slice ka4 pl kc4) (.slice va4 pl vc4))
    have q13 := S5.out.cell (i := 10) rfl 13 (.int .i64 s.laid) rfl
    have c5 := S5.out.cell (i := 5) rfl 5 (.int .i64 (pgsV s)) rfl
    have x0 := S5.out.cell (i := 2) rfl 0 (.int .i64 pn.lv) rfl
    have x1 := S5.out.cell (i := 2) rfl 1 (.int .i64 pn.lk) rfl
    have x2 := S5.out.cell (i := 2) rfl 2 (.int .i64 pn.hi) rfl
    have x3 := S5.out.cell (i := 2) rfl 3 (.slice ka4 pl kc4) rfl
    have x4 := S5.out.cell (i := 2) rfl 4 (.slice va4 pl vc4) rfl
    have hrt : rightB pn = true := by have := HP.out.rt; rw [HPG.out.2.2, HPN.out] at this; exact this
    have hpb := right_bd pn hrt
    have r1 := rd_len (S5.out.get (i := 0) rfl) HPL.out
    have r2 := rd_len (xs := pn.vs) (S5.out.get (i := 1) rfl) (by rw [← HPL2.out])
    have CP := hideIt (pack_any pn _ _ _ (HT.out _ _ S5.out) r1 r2 (by have := hpb.2.2.2.2.1; omega) (by have := hpb.2.2.2.2.1; have := hpb.2.2.2.1; omega))
    have HRT := hideIt hrt
    clear r1 r2 hpb hrt
    go_wp2_with fail
    refine CP.out.mono ?_
    rintro e w7 ⟨b5, er, rfl, hpk, hsz, hb5⟩
    obtain ⟨hpk1, rfl⟩ := pk_right hpk HRT.out
    have HPK : Hid (b5.data.toList = packT (nxtN n s)) := by unfold Hid; rw [HPG.out.2.2, HPN.out]; exact hpk1
    have A12 := hideIt (S5.out.below hb5)
    clear A11 S5 CP hpk hpk1 hsz hb5 x0 x1 x2 x3 x4 g0 g1 g2 g3 g4 v0 v1 v2 v3 v4 q13 c5
    have c7 := A12.out.cell (i := 5) rfl 7 (.string ⟨#[]⟩) rfl
    have f7 := A12.out.free (i := 5) rfl 7
    have A13 := hideIt (A12.out.store (i := 5) (j := 7) rfl (.string b5) (c' := #[.int .i64 n.lv, .int .i64 n.lk, .int .i64 n.hi, .slice na n.ks.length nc, .slice nva n.vs.length nvc, .int .i64 (pgsV s), .int .i64 low, .string b5]) rfl)
    have hlr := A12.out.lt (i := 9) rfl
    clear A12
    have HFR := hideIt (A13.out.block (i := 9) rfl)
    have AF := hideIt (A13.out.setRow (i := 9) rfl #[.int .i64 n.lv, .int .i64 n.lk, .int .i64 n.hi, .slice na n.ks.length nc, .slice nva n.vs.length nvc, .int .i64 (pgsV s), .int .i64 low, .string b5])
    go_wp2_with (first | (refine wpList_load_row rfl 120 _ rfl _ rfl 120 _ (0, 0) _ (A13.out.block (i := 5) rfl) Tryz.underlying120 rfl infoChange ?_) | (refine wpList_store_row rfl 120 _ _ rfl _ _ rfl rfl 120 _ HFR.out infoChange rfl (by simp [Value.oneCell']) ?_))
    refine bodyPost_ret (v := .tuple #[.agg #[.int .i64 n.lv, .int .i64 n.lk, .int .i64 n.hi, .slice na n.ks.length nc, .slice nva n.vs.length nvc, .int .i64 (pgsV s), .int .i64 low, .string b5], .bool true]) ?_ rfl ?_
    · exact results_row2 Tryz.results60 _ _ gr 120 _ (0, 0) _ _ rfl rfl (setRow_heap _ _ _ _ _ _ HFR.out) Tryz.underlying120 rfl infoChange
    · rw [HPG.out.1, HPG.out.2.1]
      exact ⟨_, _, b5, rfl, HPK.out, AF.out.sub (.cons _ (.cons _ (.cons _ (.cons _ (.cons _ (.cons _ (.cons _ (.cons_cons _ (.cons_cons _ (.cons _ (.cons _ (List.Sublist.refl _))))))))))))⟩
  · have HLEN : Hid ((chgN n s).ks.length = 7 ∧ (chgN n s).vs.length = 7) := HL1.out
    have rk : Rd w4 (.slice ka3 7 kc3) (chgN n s).ks := rd_len (A7.out.get (i := 1) rfl) HLEN.out.1
    obtain ⟨b1, o1, rfl, -, x1'⟩ := rk.elem 4 (by omega)
    have hlb1 := rk.blk_lt 4 (by omega)
    obtain ⟨low, hlow⟩ : ∃ x, (chgN n s).ks[4]?.getD 0 = x := ⟨_, rfl⟩
    have HLOW := hideIt hlow
    have HX1 := hideIt x1'
    have HMV : Hid (midV n s = 4) := by unfold Hid midV; rw [HLEN.out.1]
    have HPG : Hid (pgsN n s = pgsV s ∧ lowV n s = low ∧ nxtN n s = pcN (chgN n s) low s) := by
      have e : lowV n s = low := by unfold lowV; rw [HCB.out, HMV.out, if_pos rfl]; exact HLOW.out
      unfold Hid pgsN nxtN
      rw [HCB.out, e]
      exact ⟨rfl, rfl, rfl⟩
    have hld : s.laid ≤ pgsV s := by have := HP.out.laid; rw [HPG.out.1] at this; exact this
    have hld2 : decide (pgsV s < s.laid) = false := by rw [decide_eq_false_iff_not]; omega
    clear rk x1' hlow
    have x0 := A7.out.cell (i := 0) rfl 0 (.int .i64 n.lv) rfl
    have x1 := A7.out.cell (i := 0) rfl 1 (.int .i64 n.lk) rfl
    have x2 := A7.out.cell (i := 0) rfl 2 (.int .i64 n.hi) rfl
    have x3 := A7.out.cell (i := 0) rfl 3 (.slice (some ⟨b1, o1, none⟩) 7 kc3) rfl
    have x4 := A7.out.cell (i := 0) rfl 4 (.slice va3 7 vc3) rfl
    go_wp2_with (refine wpList_load_row rfl 92 _ rfl _ rfl 92 _ (0, 0) _ (A7.out.block (i := 8) rfl) Tryz.underlying92 rfl infoState ?_)
    refine (pagesToSplit_any s _ _ _ _ _ _ _ (HR.out.stv A7.out (fun a ha => by simp [ha]))).mono ?_
    rintro e w5 ⟨rfl, hb⟩
    have y2 := HX1.out _ hb
    rw [HLOW.out] at y2
    have A8 := hideIt (A7.out.below hb)
    clear A7 hb x0 x1 x2 x3 x4 HX1
    have c5 := A8.out.cell (i := 3) rfl 5 (.int .i64 0) rfl
    have f5 := A8.out.free (i := 3) rfl 5
    have hgc1 : gc ≠ b1 := A8.out.neMem (i := 3) rfl (show As.row 3 1 (.slice (some ⟨b1, o1, none⟩) 7 kc3) 7 (ints (chK n s.kd (wantV s))) ∈ _ by simp)
    have hgc2 : b1 ≠ gc := fun e => hgc1 e.symm
    have A9 := hideIt (A8.out.store (i := 3) (j := 5) rfl (.int .i64 (pgsV s)) (c' := #[.int .i64 n.lv, .int .i64 n.lk, .int .i64 n.hi, .slice na n.ks.length nc, .slice nva n.vs.length nvc, .int .i64 (pgsV s), .int .i64 0, .string ⟨#[]⟩]) rfl)
    have z3 := A9.out.cell (i := 0) rfl 3 (.slice (some ⟨b1, o1, none⟩) 7 kc3) rfl
    have c6 := A9.out.cell (i := 3) rfl 6 (.int .i64 0) rfl
    have f6 := A9.out.free (i := 3) rfl 6
    have hlgc := A8.out.lt (i := 3) rfl
    have A10 := hideIt (A9.out.store (i := 3) (j := 6) rfl (.int .i64 low) (c' := #[.int .i64 n.lv, .int .i64 n.lk, .int .i64 n.hi, .slice na n.ks.length nc, .slice nva n.vs.length nvc, .int .i64 (pgsV s), .int .i64 low, .string ⟨#[]⟩]) rfl)
    have x0 := A10.out.cell (i := 0) rfl 0 (.int .i64 n.lv) rfl
    have x1 := A10.out.cell (i := 0) rfl 1 (.int .i64 n.lk) rfl
    have x2 := A10.out.cell (i := 0) rfl 2 (.int .i64 n.hi) rfl
    have x3 := A10.out.cell (i := 0) rfl 3 (.slice (some ⟨b1, o1, none⟩) 7 kc3) rfl
    have x4 := A10.out.cell (i := 0) rfl 4 (.slice va3 7 vc3) rfl
    have CP := piece_any (chgN n s) 4 s _ _ _ _ _ _ (.slice (some ⟨b1, o1, none⟩) 7 kc3) (.slice va3 7 vc3) _ w0 _ B (by rw [HLEN.out.1]; omega) A10.out (HR.out.sub (fun a ha => by simp [ha])) (by rw [HLEN.out.1]; simp [chgN]) (by rw [HLEN.out.2]; simp [chgN]) (by rw [HLEN.out.1, HLEN.out.2]) (by rw [HLEN.out.1]; omega) ⟨HRB.out.1, HRB.out.2.1⟩ HOK.out.sp2 (HP.out.pc HCB.out)
    rw [HLOW.out] at CP
    obtain ⟨pn, hpn⟩ : ∃ x, pcN (chgN n s) low s = x := ⟨_, rfl⟩
    rw [hpn] at CP
    obtain ⟨pl, hpl⟩ : ∃ x, pn.ks.length = x := ⟨_, rfl⟩
    rw [hpl, show (chgN n s).lv = n.lv from rfl, show (chgN n s).lk = n.lk from rfl, show (chgN n s).hi = n.hi from rfl] at CP
    have HPN := hideIt hpn
    have HPL := hideIt hpl
    have CPc := hideIt CP
    clear CP hpn hpl A8
    go_wp2_with (refine wpList_load_row rfl 92 _ rfl _ rfl 92 _ (0, 0) _ (A10.out.block (i := 8) rfl) Tryz.underlying92 rfl infoState ?_)
    refine CPc.out.mono ?_
    rintro e w6 ⟨kv4, vv4, rfl, hpl2, hM6⟩
    obtain ⟨ka4, kc4, rfl⟩ := As.form0 (hM6.get (i := 0) rfl)
    obtain ⟨va4, vc4, rfl⟩ := As.form0 (hM6.get (i := 1) rfl)
    have HPL2 := hideIt hpl2
    have A11 := hideIt hM6
    clear CPc A9 A10 hM6 x0 x1 x2 x3 x4 y2 z3 c5 c6 f5 f6 hpl2
    have v0 := A11.out.cell (i := 2) rfl 0 (.int .i64 n.lv) rfl
    have v1 := A11.out.cell (i := 2) rfl 1 (.int .i64 n.lk) rfl
    have v2 := A11.out.cell (i := 2) rfl 2 (.int .i64 n.hi) rfl
    have v3 := A11.out.cell (i := 2) rfl 3 (.slice (some ⟨b1, o1, none⟩) 7 kc3) rfl
    have v4 := A11.out.cell (i := 2) rfl 4 (.slice va3 7 vc3) rfl
    have g0 := A11.out.free (i := 2) rfl 0
    have g1 := A11.out.free (i := 2) rfl 1
    have g2 := A11.out.free (i := 2) rfl 2
    have g3 := A11.out.free (i := 2) rfl 3
    have g4 := A11.out.free (i := 2) rfl 4
    have S5 := hideIt (A11.out.store5 (i := 2) rfl (.int .i64 pn.lv) (.int .i64 pn.lk) (.int .i64 pn.hi) (.slice ka4 pl kc4) (.slice va4 pl vc4))
    have q13 := S5.out.cell (i := 10) rfl 13 (.int .i64 s.laid) rfl
    have c5 := S5.out.cell (i := 5) rfl 5 (.int .i64 (pgsV s)) rfl
    have x0 := S5.out.cell (i := 2) rfl 0 (.int .i64 pn.lv) rfl
    have x1 := S5.out.cell (i := 2) rfl 1 (.int .i64 pn.lk) rfl
    have x2 := S5.out.cell (i := 2) rfl 2 (.int .i64 pn.hi) rfl
    have x3 := S5.out.cell (i := 2) rfl 3 (.slice ka4 pl kc4) rfl
    have x4 := S5.out.cell (i := 2) rfl 4 (.slice va4 pl vc4) rfl
    have hrt : rightB pn = true := by have := HP.out.rt; rw [HPG.out.2.2, HPN.out] at this; exact this
    have hpb := right_bd pn hrt
    have r1 := rd_len (S5.out.get (i := 0) rfl) HPL.out
    have r2 := rd_len (xs := pn.vs) (S5.out.get (i := 1) rfl) (by rw [← HPL2.out])
    have CP := hideIt (pack_any pn _ _ _ (HT.out _ _ S5.out) r1 r2 (by have := hpb.2.2.2.2.1; omega) (by have := hpb.2.2.2.2.1; have := hpb.2.2.2.1; omega))
    have HRT := hideIt hrt
    clear r1 r2 hpb hrt
    go_wp2_with fail
    refine CP.out.mono ?_
    rintro e w7 ⟨b5, er, rfl, hpk, hsz, hb5⟩
    obtain ⟨hpk1, rfl⟩ := pk_right hpk HRT.out
    have HPK : Hid (b5.data.toList = packT (nxtN n s)) := by unfold Hid; rw [HPG.out.2.2, HPN.out]; exact hpk1
    have A12 := hideIt (S5.out.below hb5)
    clear A11 S5 CP hpk hpk1 hsz hb5 x0 x1 x2 x3 x4 g0 g1 g2 g3 g4 v0 v1 v2 v3 v4 q13 c5
    have c7 := A12.out.cell (i := 5) rfl 7 (.string ⟨#[]⟩) rfl
    have f7 := A12.out.free (i := 5) rfl 7
    have A13 := hideIt (A12.out.store (i := 5) (j := 7) rfl (.string b5) (c' := #[.int .i64 n.lv, .int .i64 n.lk, .int .i64 n.hi, .slice na n.ks.length nc, .slice nva n.vs.length nvc, .int .i64 (pgsV s), .int .i64 low, .string b5]) rfl)
    have hlr := A12.out.lt (i := 9) rfl
    clear A12
    have HFR := hideIt (A13.out.block (i := 9) rfl)
    have AF := hideIt (A13.out.setRow (i := 9) rfl #[.int .i64 n.lv, .int .i64 n.lk, .int .i64 n.hi, .slice na n.ks.length nc, .slice nva n.vs.length nvc, .int .i64 (pgsV s), .int .i64 low, .string b5])
    go_wp2_with (first | (refine wpList_load_row rfl 120 _ rfl _ rfl 120 _ (0, 0) _ (A13.out.block (i := 5) rfl) Tryz.underlying120 rfl infoChange ?_) | (refine wpList_store_row rfl 120 _ _ rfl _ _ rfl rfl 120 _ HFR.out infoChange rfl (by simp [Value.oneCell']) ?_))
    refine bodyPost_ret (v := .tuple #[.agg #[.int .i64 n.lv, .int .i64 n.lk, .int .i64 n.hi, .slice na n.ks.length nc, .slice nva n.vs.length nvc, .int .i64 (pgsV s), .int .i64 low, .string b5], .bool true]) ?_ rfl ?_
    · exact results_row2 Tryz.results60 _ _ gr 120 _ (0, 0) _ _ rfl rfl (setRow_heap _ _ _ _ _ _ HFR.out) Tryz.underlying120 rfl infoChange
    · rw [HPG.out.1, HPG.out.2.1]
      exact ⟨_, _, b5, rfl, HPK.out, AF.out.sub (.cons _ (.cons _ (.cons _ (.cons _ (.cons _ (.cons _ (.cons _ (.cons_cons _ (.cons_cons _ (.cons _ (.cons _ (List.Sublist.refl _))))))))))))⟩
def wrA (s : St) (pgs : Int) : Int × Int × Int := if s.laid = pgs then (2, s.pg, s.ver) else if s.laid < s.sp.length then (2, s.sp[s.laid.toNat]?.getD 0, s.sv[s.laid.toNat]?.getD 0) else (3, 0, 0)
set_option maxRecDepth 100000 in
set_option maxHeartbeats 6400000 in
theorem writing_any (s : St) (n : Nd) (pgs low : Int) (T : ByteArray) (ka va : Option Addr) (kl kc vl vc : Nat) (kv vv bv pv xv yv : Value) (w : World) (hv : StV w s kv vv bv pv xv yv) (hl0 : 0 ≤ s.laid) (hl2 : s.laid ≤ 2) (_hsp2 : s.sp.length ≤ 2) (hspl : s.sp.length = s.sv.length) :
    Calls Tryz.prog 61 #[.agg #[.int .i64 s.kd, .int .i64 s.key, .int .i64 s.val, .int .i64 s.step, .int .i64 s.pg, kv, vv, bv, pv, .string s.sw, .int .i64 s.ver, xv, yv, .int .i64 s.laid, .int .i64 s.lv, .int .i64 s.low, .int .i64 s.ch, .int .i64 s.pt], .agg #[.int .i64 n.lv, .int .i64 n.lk, .int .i64 n.hi, .slice ka kl kc, .slice va vl vc, .int .i64 pgs, .int .i64 low, .string T]] w fun e w' => e = .returned (.agg #[.int .i64 (wrA s pgs).1, .int .i64 (wrA s pgs).2.1, .int .i64 (wrA s pgs).2.2, .string T]) ∧ Below w.heap.size w w' := by
  obtain ⟨ak, ck, rfl⟩ := hv.keys.len
  obtain ⟨av, cv, rfl⟩ := hv.vals.len
  obtain ⟨ab, cb, rfl⟩ := hv.bel.len
  obtain ⟨ap, cp, rfl⟩ := hv.pts.len
  obtain ⟨ax, cx, rfl⟩ := hv.sp.len
  obtain ⟨ay, cy, rfl⟩ := hv.sv.len
  have A0 := ((((M.start w).alloc #[.int .i64 s.kd, .int .i64 s.key, .int .i64 s.val, .int .i64 s.step, .int .i64 s.pg, .slice ak s.keys.length ck, .slice av s.vals.length cv, .slice ab s.bel.length cb, .slice ap s.pts.length cp, .string s.sw, .int .i64 s.ver, .slice ax s.sp.length cx, .slice ay s.sv.length cy, .int .i64 s.laid, .int .i64 s.lv, .int .i64 s.low, .int .i64 s.ch, .int .i64 s.pt] 92).alloc #[.int .i64 n.lv, .int .i64 n.lk, .int .i64 n.hi, .slice ka kl kc, .slice va vl vc, .int .i64 pgs, .int .i64 low, .string T] 120).alloc #[.int .i64 0, .int .i64 0, .int .i64 0, .string ⟨#[]⟩] 94)
  rw [alloc_size, alloc_size] at A0
  have HSP := hideIt hv.sp
  have HSVV := hideIt hv.sv
  have HSPL := hideIt hspl
  obtain ⟨j, hj⟩ : ∃ j : Nat, s.laid = (j : Int) := ⟨s.laid.toNat, by omega⟩
  have HJ := hideIt hj
  clear hv hspl hl0 hl2 hj
  go_enter Tryz.func61, Tryz.ntmps61
  go_upto_region 1 with fail
  generalize ((w.alloc (.cells #[.int .i64 s.kd, .int .i64 s.key, .int .i64 s.val, .int .i64 s.step, .int .i64 s.pg, .slice ak s.keys.length ck, .slice av s.vals.length cv, .slice ab s.bel.length cb, .slice ap s.pts.length cp, .string s.sw, .int .i64 s.ver, .slice ax s.sp.length cx, .slice ay s.sv.length cy, .int .i64 s.laid, .int .i64 s.lv, .int .i64 s.low, .int .i64 s.ch, .int .i64 s.pt] 92)).alloc (.cells #[.int .i64 n.lv, .int .i64 n.lk, .int .i64 n.hi, .slice ka kl kc, .slice va vl vc, .int .i64 pgs, .int .i64 low, .string T] 120)).alloc (.cells #[.int .i64 0, .int .i64 0, .int .i64 0, .string ⟨#[]⟩] 94) = W at A0 ⊢
  obtain ⟨g0, hg0⟩ : ∃ g, w.heap.size = g := ⟨_, rfl⟩
  have HG0 := hideIt hg0
  rw [hg0] at A0 ⊢
  clear hg0
  have A1 := hideIt A0
  clear A0
  have q4 := A1.out.cell (i := 2) rfl 4 (.int .i64 s.pg) rfl
  have q10 := A1.out.cell (i := 2) rfl 10 (.int .i64 s.ver) rfl
  have q13 := A1.out.cell (i := 2) rfl 13 (.int .i64 s.laid) rfl
  have c5 := A1.out.cell (i := 1) rfl 5 (.int .i64 pgs) rfl
  have c7 := A1.out.cell (i := 1) rfl 7 (.string T) rfl
  have r0 := A1.out.cell (i := 0) rfl 0 (.int .i64 0) rfl
  have r1 := A1.out.cell (i := 0) rfl 1 (.int .i64 0) rfl
  have r2 := A1.out.cell (i := 0) rfl 2 (.int .i64 0) rfl
  have r3 := A1.out.cell (i := 0) rfl 3 (.string ⟨#[]⟩) rfl
  have f0 := A1.out.free (i := 0) rfl 0
  have f1 := A1.out.free (i := 0) rfl 1
  have f2 := A1.out.free (i := 0) rfl 2
  have f3 := A1.out.free (i := 0) rfl 3
  have BL := hideIt A1.out.bl
  have BLS : Hid (∀ (X : World) (a b c d : Value), X = (((W.setCell ⟨g0 + 1 + 1, 0, none⟩ a).setCell ⟨g0 + 1 + 1, 1, none⟩ b).setCell ⟨g0 + 1 + 1, 2, none⟩ c).setCell ⟨g0 + 1 + 1, 3, none⟩ d → Below g0 w X) := by
    rintro X a b c d rfl
    exact (((BL.out.setCell (show g0 ≤ g0 + 1 + 1 by omega) a).setCell (show g0 ≤ g0 + 1 + 1 by omega) b).setCell (show g0 ≤ g0 + 1 + 1 by omega) c).setCell (show g0 ≤ g0 + 1 + 1 by omega) d
  by_cases hq : s.laid = pgs
  · have HW : Hid (wrA s pgs = (2, s.pg, s.ver)) := by unfold Hid wrA; rw [if_pos hq]
    have hqb : (s.laid == pgs) = true := by simp [hq]
    clear hq
    go_wp2
    refine bodyPost_ret (v := .agg #[.int .i64 2, .int .i64 s.pg, .int .i64 s.ver, .string T]) (by simp [results, Tryz.results61, go_sem, *]) rfl ?_
    rw [HW.out]
    exact ⟨rfl, by rw [HG0.out]; exact BLS.out _ _ _ _ _ rfl⟩
  · have hqb : (s.laid == pgs) = false := by simp [hq]
    by_cases hlt : s.laid < s.sp.length
    · have hlj : j < s.sp.length := by have := HJ.out; omega
      have HW : Hid (wrA s pgs = (2, s.sp[j]?.getD 0, s.sv[j]?.getD 0)) := by unfold Hid wrA; rw [if_neg hq, if_pos hlt, HJ.out]; rfl
      obtain ⟨b1, o1, rfl, -, x1⟩ := HSP.out.elem j hlj
      obtain ⟨b2, o2, rfl, -, x2⟩ := HSVV.out.elem j (by rw [← HSPL.out]; exact hlj)
      have y1 := x1 _ (by rw [HG0.out]; exact BL.out)
      have y2 := x2 _ (by rw [HG0.out]; exact BL.out)
      obtain ⟨a, ha⟩ : ∃ x, s.sp[j]?.getD 0 = x := ⟨_, rfl⟩
      obtain ⟨b, hb⟩ : ∃ x, s.sv[j]?.getD 0 = x := ⟨_, rfl⟩
      rw [ha] at y1 HW
      rw [hb] at y2 HW
      have q11 := A1.out.cell (i := 2) rfl 11 (.slice (some ⟨b1, o1, none⟩) s.sp.length cx) rfl
      have q12 := A1.out.cell (i := 2) rfl 12 (.slice (some ⟨b2, o2, none⟩) s.sv.length cy) rfl
      have hlb1 := HSP.out.blk_lt j hlj
      have hlb2 := HSVV.out.blk_lt j (by rw [← HSPL.out]; exact hlj)
      rw [HG0.out] at hlb1 hlb2
      have hn1 : b1 ≠ g0 + 1 + 1 := by omega
      have hn2 : b2 ≠ g0 + 1 + 1 := by omega
      rw [HJ.out] at q13 hqb
      have hj0 : (0 : Int) ≤ (j : Int) := by omega
      have hjl : (j : Int) < (s.sp.length : Int) := by omega
      have hjl2 : (j : Int) < (s.sv.length : Int) := by rw [← HSPL.out]; omega
      clear hq hlt x1 x2 ha hb
      go_wp2_with fail
      go_region
      all_goals
        go_wp2
        refine bodyPost_ret (v := .agg #[.int .i64 2, .int .i64 a, .int .i64 b, .string T]) (by simp [results, Tryz.results61, go_sem, *]) rfl ?_
        rw [HW.out]
        refine ⟨rfl, ?_⟩
        rw [HG0.out]
        have hb9 := BLS.out _ (.int .i64 2) (.int .i64 a) (.int .i64 b) (.string T) rfl
        exact ⟨hb9.os, hb9.tape, hb9.output, hb9.size, hb9.block⟩
    · have HW : Hid (wrA s pgs = (3, 0, 0)) := by unfold Hid wrA; rw [if_neg hq, if_neg hlt]
      have q11 := A1.out.cell (i := 2) rfl 11 (.slice ax s.sp.length cx) rfl
      have hlt2 : decide (s.laid < (s.sp.length : Int)) = false := decide_eq_false hlt
      clear hq hlt
      go_wp2
      refine bodyPost_ret (v := .agg #[.int .i64 3, .int .i64 0, .int .i64 0, .string T]) (by simp [results, Tryz.results61, go_sem, *]) rfl ?_
      rw [HW.out]
      exact ⟨rfl, by rw [HG0.out]; exact BLS.out _ _ _ _ _ rfl⟩
def byt (l : List UInt8) : ByteArray := ⟨l.toArray⟩
theorem byt_eq {T : ByteArray} {l : List UInt8} (h : T.data.toList = l) : T = byt l := ba_ext (by rw [h]; rfl)
set_option maxRecDepth 100000 in
set_option maxHeartbeats 6400000 in
theorem next_write (s : St) (n : Nd) (t : ByteArray) (w : World) (htab : Tab w) (ht : t.data.toList = frT s) (hok : StOk s) (hp : PlOk n s) (hsw : s.sw ≠ ⟨#[]⟩) (hl2 : s.laid ≤ 2) :
    Calls Tryz.prog 42 #[.string t] w fun e w' => e = .returned (.tuple #[.agg #[.int .i64 (wrA s (pgsN n s)).1, .int .i64 (wrA s (pgsN n s)).2.1, .int .i64 (wrA s (pgsN n s)).2.2, .string (byt (packT (nxtN n s)))], .int .i64 0]) ∧ Below w.heap.size w w' := by
  have A0 := hideIt ((M.start w).alloc #[.int .i64 0, .int .i64 0, .int .i64 0, .string ⟨#[]⟩] 94)
  have CR := hideIt (fun W => readFrame_yes s t W ht hok)
  have hsb : s.sw.toList.isEmpty = false := nonempty_of hsw
  have HOK := hideIt hok
  have HP := hideIt hp
  have HT := hideIt htab
  clear ht hok hp hsw htab
  go_enter Tryz.func42, Tryz.ntmps42
  go_wp2_with fail
  refine (CR.out _).mono ?_
  rintro e w1 ⟨⟨kv, vv, bv, pv, xv, yv, hO, rfl⟩, hb⟩
  have A1 := A0.out.join (hO.m hb)
  clear hO hb CR A0
  obtain ⟨ak, ck, rfl⟩ := As.form0 (A1.get (i := 0) rfl)
  obtain ⟨av, cv, rfl⟩ := As.form0 (A1.get (i := 1) rfl)
  obtain ⟨ab, cb, rfl⟩ := As.form0 (A1.get (i := 2) rfl)
  obtain ⟨ap, cp, rfl⟩ := As.form0 (A1.get (i := 3) rfl)
  obtain ⟨ax, cx, rfl⟩ := As.form0 (A1.get (i := 4) rfl)
  obtain ⟨ay, cy, rfl⟩ := As.form0 (A1.get (i := 5) rfl)
  have A2 := hideIt (A1.alloc #[.int .i64 s.kd, .int .i64 s.key, .int .i64 s.val, .int .i64 s.step, .int .i64 s.pg, .slice ak s.keys.length ck, .slice av s.vals.length cv, .slice ab s.bel.length cb, .slice ap s.pts.length cp, .string s.sw, .int .i64 s.ver, .slice ax s.sp.length cx, .slice ay s.sv.length cy, .int .i64 s.laid, .int .i64 s.lv, .int .i64 s.low, .int .i64 s.ch, .int .i64 s.pt] 92)
  clear A1
  have q9 := A2.out.cell (i := 0) rfl 9 (.string s.sw) rfl
  have HRI : Hid (∀ l, RowsIn s (.slice ak s.keys.length ck) (.slice av s.vals.length cv) (.slice ab s.bel.length cb) (.slice ap s.pts.length cp) (.slice ax s.sp.length cx) (.slice ay s.sv.length cy) (l ++ [.row 3 1 (.slice ak s.keys.length ck) s.keys.length (ints s.keys), .row 3 1 (.slice av s.vals.length cv) s.vals.length (ints s.vals), .row 3 1 (.slice ab s.bel.length cb) s.bel.length (ints s.bel), .row 3 1 (.slice ap s.pts.length cp) s.pts.length (ints s.pts), .row 3 1 (.slice ax s.sp.length cx) s.sp.length (ints s.sp), .row 3 1 (.slice ay s.sv.length cy) s.sv.length (ints s.sv), .blk w.heap.size #[.int .i64 0, .int .i64 0, .int .i64 0, .string ⟨#[]⟩] 94])) := fun l => ⟨by simp, by simp, by simp, by simp, by simp, by simp⟩
  have CP := hideIt (planned_x n s _ _ _ _ _ _ _ w _ w.heap.size HT.out rfl HOK.out HP.out A2.out (HRI.out [_]))
  go_wp2_with (refine wpList_load_row rfl 92 _ rfl _ rfl 92 _ (0, 0) _ (A2.out.block (i := 0) rfl) Tryz.underlying92 rfl infoState ?_)
  refine CP.out.mono ?_
  rintro e w3 ⟨kv3, vv3, T, rfl, hT, hM3⟩
  obtain ⟨ka3, kc3, rfl⟩ := As.form0 (hM3.get (i := 0) rfl)
  obtain ⟨va3, vc3, rfl⟩ := As.form0 (hM3.get (i := 1) rfl)
  obtain rfl := byt_eq hT
  have A4 := hideIt (hM3.alloc #[.int .i64 n.lv, .int .i64 n.lk, .int .i64 n.hi, .slice ka3 n.ks.length kc3, .slice va3 n.vs.length vc3, .int .i64 (pgsN n s), .int .i64 (lowV n s), .string (byt (packT (nxtN n s)))] 120)
  clear CP A2 hM3 q9 hT
  obtain ⟨pgs, hpgs⟩ : ∃ x, pgsN n s = x := ⟨_, rfl⟩
  obtain ⟨low, hlow⟩ : ∃ x, lowV n s = x := ⟨_, rfl⟩
  obtain ⟨TT, hTT⟩ : ∃ x, byt (packT (nxtN n s)) = x := ⟨_, rfl⟩
  rw [hpgs, hlow, hTT] at A4 ⊢
  have HQ := hideIt (And.intro hpgs hTT)
  have CW := hideIt (writing_any s n pgs low TT ka3 va3 n.ks.length kc3 n.vs.length vc3 _ _ _ _ _ _ _ ((HRI.out [_, _, _, _]).stv A4.out (fun a ha => by simpa using ha)) HOK.out.laid.1 hl2 HOK.out.sp2 HOK.out.spl)
  clear hpgs hlow hTT
  obtain ⟨ak', hak⟩ : ∃ x, (wrA s pgs).1 = x := ⟨_, rfl⟩
  obtain ⟨ap', hap⟩ : ∃ x, (wrA s pgs).2.1 = x := ⟨_, rfl⟩
  obtain ⟨av', hav⟩ : ∃ x, (wrA s pgs).2.2 = x := ⟨_, rfl⟩
  rw [hak, hap, hav] at CW
  have HA := hideIt (And.intro hak (And.intro hap hav))
  clear hak hap hav
  go_wp2_with (first | (refine wpList_load_row rfl 92 _ rfl _ rfl 92 _ (0, 0) _ (A4.out.block (i := 3) rfl) Tryz.underlying92 rfl infoState ?_) | (refine wpList_load_row rfl 120 _ rfl _ rfl 120 _ (0, 0) _ (A4.out.block (i := 0) rfl) Tryz.underlying120 rfl infoChange ?_))
  refine CW.out.mono ?_
  rintro e w5 ⟨rfl, hb5⟩
  have A6 := hideIt (A4.out.below hb5)
  clear hb5 A4 CW
  have r0 := A6.out.cell (i := 10) rfl 0 (.int .i64 0) rfl
  have r1 := A6.out.cell (i := 10) rfl 1 (.int .i64 0) rfl
  have r2 := A6.out.cell (i := 10) rfl 2 (.int .i64 0) rfl
  have r3 := A6.out.cell (i := 10) rfl 3 (.string ⟨#[]⟩) rfl
  have f0 := A6.out.free (i := 10) rfl 0
  have f1 := A6.out.free (i := 10) rfl 1
  have f2 := A6.out.free (i := 10) rfl 2
  have f3 := A6.out.free (i := 10) rfl 3
  have BL := hideIt A6.out.bl
  clear A6
  go_wp2
  refine bodyPost_ret (v := .tuple #[.agg #[.int .i64 ak', .int .i64 ap', .int .i64 av', .string TT], .int .i64 0]) (by simp [results, Tryz.results42, go_sem, *]) rfl ?_
  rw [HQ.out.1, HQ.out.2, HA.out.1, HA.out.2.1, HA.out.2.2]
  refine ⟨rfl, ?_⟩
  repeat (refine Below.setCell ?_ (by simp) _)
  exact BL.out
end Go.Proofs.YtajobgmnmbnhiaaGreatDoor.Sap
