/- WHAT IS PROVED HERE: what tree.changeLeaf answers at the leaf of its key: a Drop that finds nothing ends; a Put into a full leaf is refused; else a Swap is wanted. Conditions: named at each theorem. -/
import Derived.Test.YtjpgldeeopmbgaaDoorXT2C1
import Derived.Test.YtjpgldeeopmbgaaDoorXT8L2
import Derived.Test.YtjpgldeeopmbgaaDoorXL3V2
import Derived.Test.YtjpgldeeopmbgaaDoorXS4G1
namespace Go.Proofs.YtjpgldeeopmbgaaDoor.Sap
open Go.RowKit

set_option maxRecDepth 100000 in
set_option maxHeartbeats 1000000 in
theorem changeLeaf_drop (s : St) (n : Nd) (ver : Int) (kv vv bv pv ka va : Value) (fr : List As) (w0 w : World) (B : Nat) (hI : StI s) (hk3 : s.kd = 3) (hfb : fndB n.ks s.key n.ks.length = false)
    (h : M w0 B w fr) (hkv : .row 3 1 kv s.keys.length (ints s.keys) ∈ fr) (hvv : .row 3 1 vv s.vals.length (ints s.vals) ∈ fr) (hbv : .row 3 1 bv s.bel.length (ints s.bel) ∈ fr) (hpv : .row 3 1 pv s.pts.length (ints s.pts) ∈ fr) (hka : .row 3 1 ka n.ks.length (ints n.ks) ∈ fr) (hva : .row 3 1 va n.vs.length (ints n.vs) ∈ fr) (hn : n.ks.length = n.vs.length) (h6 : n.ks.length ≤ 6) :
    Calls Tryd.prog 101 #[.agg #[.int .i64 s.kd, .int .i64 s.key, .int .i64 s.val, .int .i64 s.step, .int .i64 s.pg, kv, vv, bv, pv, .string s.sw, .int .i64 s.ver, .bool s.fnd, .int .i64 s.va], .agg #[.int .i64 n.lv, .int .i64 n.lk, .int .i64 n.hi, ka, va], .int .i64 ver] w fun e w' => e = .returned (.tuple #[.string ⟨#[]⟩, .agg #[.int .i64 0, .bool false, .int .i64 (fndV n.ks n.vs s.key n.ks.length), .int .i64 s.step, .slice none 0 0, .slice none 0 0, .slice none 0 0], .bool true, .int .i64 0]) ∧ M w0 B w' fr := by
  obtain ⟨ak, ck, rfl⟩ := As.form0 (h.holds _ hkv)
  obtain ⟨av, cv, rfl⟩ := As.form0 (h.holds _ hvv)
  obtain ⟨ab, cb, rfl⟩ := As.form0 (h.holds _ hbv)
  obtain ⟨ap, cp, rfl⟩ := As.form0 (h.holds _ hpv)
  obtain ⟨na, nc, rfl⟩ := As.form0 (h.holds _ hka)
  obtain ⟨nva, nvc, rfl⟩ := As.form0 (h.holds _ hva)
  have hr1 := owns_rd (h.holds _ hkv).own
  have hr2 := owns_rd (h.holds _ hvv).own
  have hr3 := owns_rd (h.holds _ hbv).own
  have hr4 := owns_rd (h.holds _ hpv).own
  have hr5 := owns_rd (h.holds _ hka).own
  have hr6 := owns_rd (h.holds _ hva).own
  have CL := hideIt (fun W (hb : Below w.heap.size w W) => lookUp_any s n (.slice ak s.keys.length ck) (.slice av s.vals.length cv) (.slice ab s.bel.length cb) (.slice ap s.pts.length cp) (.slice na n.ks.length nc) (.slice nva n.vs.length nvc) W ⟨hr1.below hb, hr2.below hb, hr3.below hb, hr4.below hb⟩ (hr5.below hb) (hr6.below hb) hn h6)
  have HB3 : Hid (∀ o1 o2 o3, Below w.heap.size w (((w.alloc o1).alloc o2).alloc o3)) := fun o1 o2 o3 => (((Below.refl _ _).alloc (Nat.le_refl _) _).alloc (by simp) _).alloc (by simp; omega) _
  have A0 := ((h.alloc #[.int .i64 s.kd, .int .i64 s.key, .int .i64 s.val, .int .i64 s.step, .int .i64 s.pg, .slice ak s.keys.length ck, .slice av s.vals.length cv, .slice ab s.bel.length cb, .slice ap s.pts.length cp, .string s.sw, .int .i64 s.ver, .bool s.fnd, .int .i64 s.va] 104).alloc #[.int .i64 n.lv, .int .i64 n.lk, .int .i64 n.hi, .slice na n.ks.length nc, .slice nva n.vs.length nvc] 24).alloc #[.int .i64 0, .bool false, .int .i64 0, .int .i64 0, .slice none 0 0, .slice none 0 0, .slice none 0 0] 66
  rw [alloc_size, alloc_size] at A0
  have HA0 := hideIt A0
  have HI := hideIt hI
  have HMEM := hideIt (And.intro hkv (And.intro hvv (And.intro hbv (And.intro hpv (And.intro hka hva)))))
  have HN := hideIt hn
  have HFB := hideIt hfb
  have HK3 := hideIt hk3
  clear h hkv hvv hbv hpv hka hva hn A0 hI hr1 hr2 hr3 hr4 hr5 hr6 hfb hk3
  go_enter Tryd.func101, Tryd.ntmps101
  go_wp2_with fail
  refine (CL.out _ (HB3.out _ _ _)).mono ?_
  rintro e w1 ⟨rfl, hb⟩
  rw [ansG, HFB.out]
  obtain ⟨fv, hfv⟩ : ∃ x, fndV n.ks n.vs s.key n.ks.length = x := ⟨_, rfl⟩
  rw [hfv]
  have HFV := hideIt hfv
  clear hfv
  have A1 := hideIt ((HA0.out.below hb).alloc #[.int .i64 0, .bool false, .int .i64 fv, .int .i64 s.step, .slice none 0 0, .slice none 0 0, .slice none 0 0] 66)
  obtain ⟨gs, hgs⟩ : ∃ g, w.heap.size = g := ⟨_, rfl⟩
  rw [hgs] at A1 ⊢
  clear hb HA0 CL hgs HB3
  have a0 := A1.out.cell (i := 0) rfl 0 (.int .i64 0) rfl
  have a1 := A1.out.cell (i := 0) rfl 1 (.bool false) rfl
  have a2 := A1.out.cell (i := 0) rfl 2 (.int .i64 fv) rfl
  have a3 := A1.out.cell (i := 0) rfl 3 (.int .i64 s.step) rfl
  have a4 := A1.out.cell (i := 0) rfl 4 (.slice none 0 0) rfl
  have a5 := A1.out.cell (i := 0) rfl 5 (.slice none 0 0) rfl
  have a6 := A1.out.cell (i := 0) rfl 6 (.slice none 0 0) rfl
  have q0 := A1.out.cell (i := 3) rfl 0 (.int .i64 s.kd) rfl
  rw [HK3.out] at q0
  have r0 := A1.out.cell (i := 1) rfl 0 (.int .i64 0) rfl
  have e0 := A1.out.free (i := 1) rfl 0
  have r1 := A1.out.cell (i := 1) rfl 1 (.bool false) rfl
  have e1 := A1.out.free (i := 1) rfl 1
  have r2 := A1.out.cell (i := 1) rfl 2 (.int .i64 0) rfl
  have e2 := A1.out.free (i := 1) rfl 2
  have r3 := A1.out.cell (i := 1) rfl 3 (.int .i64 0) rfl
  have e3 := A1.out.free (i := 1) rfl 3
  have r4 := A1.out.cell (i := 1) rfl 4 (.slice none 0 0) rfl
  have e4 := A1.out.free (i := 1) rfl 4
  have r5 := A1.out.cell (i := 1) rfl 5 (.slice none 0 0) rfl
  have e5 := A1.out.free (i := 1) rfl 5
  have r6 := A1.out.cell (i := 1) rfl 6 (.slice none 0 0) rfl
  have e6 := A1.out.free (i := 1) rfl 6
  have hla := A1.out.lt (i := 1) rfl
  have S7 := hideIt ((A1.out.store7 (i := 1) rfl (.int .i64 0) (.bool false) (.int .i64 fv) (.int .i64 s.step) (.slice none 0 0) (.slice none 0 0) (.slice none 0 0)).drew.sub (l' := fr) (.cons _ (.cons _ (.cons _ (.cons _ (List.Sublist.refl _))))))
  clear A1
  go_wp2
  go_region
  go_wp2
  exact bodyPost_ret (v := .tuple #[.string ⟨#[]⟩, .agg #[.int .i64 0, .bool false, .int .i64 fv, .int .i64 s.step, .slice none 0 0, .slice none 0 0, .slice none 0 0], .bool true, .int .i64 0]) (by simp [results, Tryd.results101, go_sem, *]) rfl ⟨by rw [HFV.out], S7.out⟩

set_option maxRecDepth 100000 in
set_option maxHeartbeats 1000000 in
theorem changeLeaf_full (s : St) (n : Nd) (ver : Int) (kv vv bv pv ka va : Value) (fr : List As) (w0 w : World) (B : Nat) (hI : StI s) (hk3 : s.kd = 2) (hfb : fndB n.ks s.key n.ks.length = false) (h5 : 5 ≤ n.ks.length)
    (h : M w0 B w fr) (hkv : .row 3 1 kv s.keys.length (ints s.keys) ∈ fr) (hvv : .row 3 1 vv s.vals.length (ints s.vals) ∈ fr) (hbv : .row 3 1 bv s.bel.length (ints s.bel) ∈ fr) (hpv : .row 3 1 pv s.pts.length (ints s.pts) ∈ fr) (hka : .row 3 1 ka n.ks.length (ints n.ks) ∈ fr) (hva : .row 3 1 va n.vs.length (ints n.vs) ∈ fr) (hn : n.ks.length = n.vs.length) (h6 : n.ks.length ≤ 6) :
    Calls Tryd.prog 101 #[.agg #[.int .i64 s.kd, .int .i64 s.key, .int .i64 s.val, .int .i64 s.step, .int .i64 s.pg, kv, vv, bv, pv, .string s.sw, .int .i64 s.ver, .bool s.fnd, .int .i64 s.va], .agg #[.int .i64 n.lv, .int .i64 n.lk, .int .i64 n.hi, ka, va], .int .i64 ver] w fun e w' => e = .returned (.tuple #[.string ⟨#[]⟩, .agg #[.int .i64 4, .bool false, .int .i64 0, .int .i64 0, .slice none 0 0, .slice none 0 0, .slice none 0 0], .bool true, .int .i64 0]) ∧ M w0 B w' fr := by
  obtain ⟨ak, ck, rfl⟩ := As.form0 (h.holds _ hkv)
  obtain ⟨av, cv, rfl⟩ := As.form0 (h.holds _ hvv)
  obtain ⟨ab, cb, rfl⟩ := As.form0 (h.holds _ hbv)
  obtain ⟨ap, cp, rfl⟩ := As.form0 (h.holds _ hpv)
  obtain ⟨na, nc, rfl⟩ := As.form0 (h.holds _ hka)
  obtain ⟨nva, nvc, rfl⟩ := As.form0 (h.holds _ hva)
  have hr1 := owns_rd (h.holds _ hkv).own
  have hr2 := owns_rd (h.holds _ hvv).own
  have hr3 := owns_rd (h.holds _ hbv).own
  have hr4 := owns_rd (h.holds _ hpv).own
  have hr5 := owns_rd (h.holds _ hka).own
  have hr6 := owns_rd (h.holds _ hva).own
  have CL := hideIt (fun W (hb : Below w.heap.size w W) => lookUp_any s n (.slice ak s.keys.length ck) (.slice av s.vals.length cv) (.slice ab s.bel.length cb) (.slice ap s.pts.length cp) (.slice na n.ks.length nc) (.slice nva n.vs.length nvc) W ⟨hr1.below hb, hr2.below hb, hr3.below hb, hr4.below hb⟩ (hr5.below hb) (hr6.below hb) hn h6)
  have HB3 : Hid (∀ o1 o2 o3, Below w.heap.size w (((w.alloc o1).alloc o2).alloc o3)) := fun o1 o2 o3 => (((Below.refl _ _).alloc (Nat.le_refl _) _).alloc (by simp) _).alloc (by simp; omega) _
  have A0 := ((h.alloc #[.int .i64 s.kd, .int .i64 s.key, .int .i64 s.val, .int .i64 s.step, .int .i64 s.pg, .slice ak s.keys.length ck, .slice av s.vals.length cv, .slice ab s.bel.length cb, .slice ap s.pts.length cp, .string s.sw, .int .i64 s.ver, .bool s.fnd, .int .i64 s.va] 104).alloc #[.int .i64 n.lv, .int .i64 n.lk, .int .i64 n.hi, .slice na n.ks.length nc, .slice nva n.vs.length nvc] 24).alloc #[.int .i64 0, .bool false, .int .i64 0, .int .i64 0, .slice none 0 0, .slice none 0 0, .slice none 0 0] 66
  rw [alloc_size, alloc_size] at A0
  have HA0 := hideIt A0
  have HI := hideIt hI
  have HMEM := hideIt (And.intro hkv (And.intro hvv (And.intro hbv (And.intro hpv (And.intro hka hva)))))
  have HN := hideIt hn
  have HFB := hideIt hfb
  have HK3 := hideIt hk3
  clear h hkv hvv hbv hpv hka hva hn A0 hI hr1 hr2 hr3 hr4 hr5 hr6 hfb hk3
  go_enter Tryd.func101, Tryd.ntmps101
  go_wp2_with fail
  refine (CL.out _ (HB3.out _ _ _)).mono ?_
  rintro e w1 ⟨rfl, hb⟩
  rw [ansG, HFB.out]
  obtain ⟨fv, hfv⟩ : ∃ x, fndV n.ks n.vs s.key n.ks.length = x := ⟨_, rfl⟩
  rw [hfv]
  have HFV := hideIt hfv
  clear hfv
  have A1 := hideIt ((HA0.out.below hb).alloc #[.int .i64 0, .bool false, .int .i64 fv, .int .i64 s.step, .slice none 0 0, .slice none 0 0, .slice none 0 0] 66)
  obtain ⟨gs, hgs⟩ : ∃ g, w.heap.size = g := ⟨_, rfl⟩
  rw [hgs] at A1 ⊢
  clear hb HA0 CL hgs HB3
  have a1 := A1.out.cell (i := 0) rfl 1 (.bool false) rfl
  have q0 := A1.out.cell (i := 3) rfl 0 (.int .i64 s.kd) rfl
  have n3 := A1.out.cell (i := 2) rfl 3 (.slice na n.ks.length nc) rfl
  have h5i : (5 : Int) ≤ (n.ks.length : Int) := by omega
  rw [HK3.out] at q0
  have r0 := A1.out.cell (i := 1) rfl 0 (.int .i64 0) rfl
  have e0 := A1.out.free (i := 1) rfl 0
  have r1 := A1.out.cell (i := 1) rfl 1 (.bool false) rfl
  have e1 := A1.out.free (i := 1) rfl 1
  have r2 := A1.out.cell (i := 1) rfl 2 (.int .i64 0) rfl
  have e2 := A1.out.free (i := 1) rfl 2
  have r3 := A1.out.cell (i := 1) rfl 3 (.int .i64 0) rfl
  have e3 := A1.out.free (i := 1) rfl 3
  have r4 := A1.out.cell (i := 1) rfl 4 (.slice none 0 0) rfl
  have e4 := A1.out.free (i := 1) rfl 4
  have r5 := A1.out.cell (i := 1) rfl 5 (.slice none 0 0) rfl
  have e5 := A1.out.free (i := 1) rfl 5
  have r6 := A1.out.cell (i := 1) rfl 6 (.slice none 0 0) rfl
  have e6 := A1.out.free (i := 1) rfl 6
  have hla := A1.out.lt (i := 1) rfl
  have S7 := hideIt ((A1.out.store7 (i := 1) rfl (.int .i64 4) (.bool false) (.int .i64 0) (.int .i64 0) (.slice none 0 0) (.slice none 0 0) (.slice none 0 0)).sub (l' := fr) (.cons _ (.cons _ (.cons _ (.cons _ (List.Sublist.refl _))))))
  clear A1
  go_wp2
  exact bodyPost_ret (v := .tuple #[.string ⟨#[]⟩, .agg #[.int .i64 4, .bool false, .int .i64 0, .int .i64 0, .slice none 0 0, .slice none 0 0, .slice none 0 0], .bool true, .int .i64 0]) (by simp [results, Tryd.results101, go_sem, *]) rfl ⟨rfl, S7.out⟩

set_option maxRecDepth 100000 in
set_option maxHeartbeats 1000000 in
theorem changeLeaf_on (s : St) (n : Nd) (ver : Int) (fb : Bool) (kv vv bv pv ka va : Value) (fr : List As) (w0 w : World) (B : Nat) (hI : StI s) (htab : Tab w0) (hB : B = w0.heap.size) (hkd : s.kd = 2 ∨ s.kd = 3) (hk3 : fndB n.ks s.key n.ks.length = true ∨ (s.kd = 2 ∧ n.ks.length < 5)) (hk1 : 1 ≤ s.key) (hk9 : s.key ≤ 9999) (hver : 0 ≤ ver) (hver2 : ver ≤ 100000000000000000) (hst0 : 0 ≤ s.step) (hst : s.step ≤ 1000000000) (hR : rightB ⟨n.lv, n.lk, n.hi, chK n s.kd s.key, chV n s.kd s.key s.val⟩ = true) (ht6 : (tkK n.ks 0 s.key [] n.ks.length).length ≤ 6) (hfv : I64 (fndV n.ks n.vs s.key n.ks.length)) (hfb : fndB n.ks s.key n.ks.length = fb)
    (h : M w0 B w fr) (hkv : .row 3 1 kv s.keys.length (ints s.keys) ∈ fr) (hvv : .row 3 1 vv s.vals.length (ints s.vals) ∈ fr) (hbv : .row 3 1 bv s.bel.length (ints s.bel) ∈ fr) (hpv : .row 3 1 pv s.pts.length (ints s.pts) ∈ fr) (hka : .row 3 1 ka n.ks.length (ints n.ks) ∈ fr) (hva : .row 3 1 va n.vs.length (ints n.vs) ∈ fr) (hn : n.ks.length = n.vs.length) (h6 : n.ks.length ≤ 6) :
    Calls Tryd.prog 101 #[.agg #[.int .i64 s.kd, .int .i64 s.key, .int .i64 s.val, .int .i64 s.step, .int .i64 s.pg, kv, vv, bv, pv, .string s.sw, .int .i64 s.ver, .bool s.fnd, .int .i64 s.va], .agg #[.int .i64 n.lv, .int .i64 n.lk, .int .i64 n.hi, ka, va], .int .i64 ver] w fun e w' => (∃ T : ByteArray, Unp T.data.toList ⟨n.lv, n.lk, n.hi, chK n s.kd s.key, chV n s.kd s.key s.val⟩ ∧ OnR { s with sw := T, ver := ver, fnd := fndB n.ks s.key n.ks.length, va := fndV n.ks n.vs s.key n.ks.length, step := s.step + 1 } e) ∧ M w0 B w' fr := by
  obtain ⟨ak, ck, rfl⟩ := As.form0 (h.holds _ hkv)
  obtain ⟨av, cv, rfl⟩ := As.form0 (h.holds _ hvv)
  obtain ⟨ab, cb, rfl⟩ := As.form0 (h.holds _ hbv)
  obtain ⟨ap, cp, rfl⟩ := As.form0 (h.holds _ hpv)
  obtain ⟨na, nc, rfl⟩ := As.form0 (h.holds _ hka)
  obtain ⟨nva, nvc, rfl⟩ := As.form0 (h.holds _ hva)
  have hr1 := owns_rd (h.holds _ hkv).own
  have hr2 := owns_rd (h.holds _ hvv).own
  have hr3 := owns_rd (h.holds _ hbv).own
  have hr4 := owns_rd (h.holds _ hpv).own
  have hr5 := owns_rd (h.holds _ hka).own
  have hr6 := owns_rd (h.holds _ hva).own
  have CL := hideIt (fun W (hb : Below w.heap.size w W) => lookUp_any s n (.slice ak s.keys.length ck) (.slice av s.vals.length cv) (.slice ab s.bel.length cb) (.slice ap s.pts.length cp) (.slice na n.ks.length nc) (.slice nva n.vs.length nvc) W ⟨hr1.below hb, hr2.below hb, hr3.below hb, hr4.below hb⟩ (hr5.below hb) (hr6.below hb) hn h6)
  have HB3 : Hid (∀ o1 o2 o3, Below w.heap.size w (((w.alloc o1).alloc o2).alloc o3)) := fun o1 o2 o3 => (((Below.refl _ _).alloc (Nat.le_refl _) _).alloc (by simp) _).alloc (by simp; omega) _
  have A0 := ((h.alloc #[.int .i64 s.kd, .int .i64 s.key, .int .i64 s.val, .int .i64 s.step, .int .i64 s.pg, .slice ak s.keys.length ck, .slice av s.vals.length cv, .slice ab s.bel.length cb, .slice ap s.pts.length cp, .string s.sw, .int .i64 s.ver, .bool s.fnd, .int .i64 s.va] 104).alloc #[.int .i64 n.lv, .int .i64 n.lk, .int .i64 n.hi, .slice na n.ks.length nc, .slice nva n.vs.length nvc] 24).alloc #[.int .i64 0, .bool false, .int .i64 0, .int .i64 0, .slice none 0 0, .slice none 0 0, .slice none 0 0] 66
  rw [alloc_size, alloc_size] at A0
  have HA0 := hideIt A0
  have HI := hideIt hI
  have HMEM := hideIt (And.intro hkv (And.intro hvv (And.intro hbv (And.intro hpv (And.intro hka hva)))))
  have HN := hideIt hn
  have HFB := hideIt hfb
  have HKD := hideIt hkd
  have HR := hideIt hR
  have HFI := hideIt hfv
  clear h hkv hvv hbv hpv hka hva hn A0 hI hr1 hr2 hr3 hr4 hr5 hr6 hfb hkd hR hfv
  go_enter Tryd.func101, Tryd.ntmps101
  go_wp2_with fail
  refine (CL.out _ (HB3.out _ _ _)).mono ?_
  rintro e w1 ⟨rfl, hb⟩
  rw [ansG, HFB.out]
  obtain ⟨fv, hfv⟩ : ∃ x, fndV n.ks n.vs s.key n.ks.length = x := ⟨_, rfl⟩
  rw [hfv]
  have HFV := hideIt hfv
  clear hfv
  have A1 := hideIt ((HA0.out.below hb).alloc #[.int .i64 0, .bool fb, .int .i64 fv, .int .i64 s.step, .slice none 0 0, .slice none 0 0, .slice none 0 0] 66)
  obtain ⟨gs, hgs⟩ : ∃ g, w.heap.size = g := ⟨_, rfl⟩
  rw [hgs] at A1 ⊢
  clear hb HA0 CL hgs HB3
  have HT : Hid (∀ W l, M w0 B W l → Tab W) := fun W l hm => htab.below (hB ▸ hm.bl)
  have HBB := hideIt hB
  clear htab hB
  have a1 := A1.out.cell (i := 0) rfl 1 (.bool fb) rfl
  have a2 := A1.out.cell (i := 0) rfl 2 (.int .i64 fv) rfl
  have n0 := A1.out.cell (i := 2) rfl 0 (.int .i64 n.lv) rfl
  have n1 := A1.out.cell (i := 2) rfl 1 (.int .i64 n.lk) rfl
  have n2 := A1.out.cell (i := 2) rfl 2 (.int .i64 n.hi) rfl
  have n3 := A1.out.cell (i := 2) rfl 3 (.slice na n.ks.length nc) rfl
  have n4 := A1.out.cell (i := 2) rfl 4 (.slice nva n.vs.length nvc) rfl
  have q0 := A1.out.cell (i := 3) rfl 0 (.int .i64 s.kd) rfl
  have q1 := A1.out.cell (i := 3) rfl 1 (.int .i64 s.key) rfl
  have q2 := A1.out.cell (i := 3) rfl 2 (.int .i64 s.val) rfl
  have CC := hideIt (changed_any n s.kd s.key s.val (.slice na n.ks.length nc) (.slice nva n.vs.length nvc) _ w0 _ B HKD.out (by omega) hk9 A1.out (.tail _ (.tail _ (.tail _ (.tail _ HMEM.out.2.2.2.2.1)))) (.tail _ (.tail _ (.tail _ (.tail _ HMEM.out.2.2.2.2.2)))) HN.out h6 ht6)
  have hc1 : True := trivial
  have hc2 : True := trivial
  cases fb
  · have hk2 : s.kd = 2 ∧ n.ks.length < 5 := by
      rcases hk3 with h | h
      · rw [HFB.out] at h; cases h
      · exact h
    have hkb : (s.kd == 3) = false := by rw [hk2.1]; rfl
    have hc2 : decide ((5 : Int) ≤ (n.ks.length : Int)) = false := by rw [decide_eq_false_iff_not]; omega
    have HK2 := hideIt hk2.1
    clear hk3 hk2 hc1
    go_wp2_with fail
    refine CC.out.mono ?_
    rintro e w2 ⟨kv2, vv2, l2, rfl, hl1, hl2, hl3, hM2⟩
    obtain ⟨ka2, kc2, rfl⟩ := As.form0 (hM2.get (i := 0) rfl)
    obtain ⟨va2, vc2, rfl⟩ := As.form0 (hM2.get (i := 1) rfl)
    have A3 := hideIt (hM2.alloc #[.int .i64 n.lv, .int .i64 n.lk, .int .i64 n.hi, .slice ka2 l2 kc2, .slice va2 l2 vc2] 24)
    have h1 := (A3.out.get (i := 1) rfl).own
    have h2 := (A3.out.get (i := 2) rfl).own
    rw [← hl1] at h1
    rw [← hl2] at h2
    have RK := owns_rd h1
    have RV := owns_rd h2
    rw [hl1] at RK
    rw [hl2] at RV
    have CP := hideIt (pack_any ⟨n.lv, n.lk, n.hi, chK n s.kd s.key, chV n s.kd s.key s.val⟩ (.slice ka2 l2 kc2) (.slice va2 l2 vc2) _ (HT.out _ _ A3.out) RK RV (by show (chK n s.kd s.key).length ≤ _; omega) (by show (chV n s.kd s.key s.val).length ≤ _; omega))
    clear CC a1 a2 n0 n1 n2 n3 n4 q0 q1 q2 A1 hM2 RK RV hl1 hl2 h1 h2
    go_wp2_with fail
    refine CP.out.mono ?_
    rintro e w3 ⟨b, er, rfl, hPk, hbz, hb⟩
    have A4 := hideIt (A3.out.below hb)
    unfold Pk at hPk
    rw [if_pos HR.out] at hPk
    obtain ⟨hbt, rfl⟩ := hPk
    have HBT : Hid (Unp b.data.toList ⟨n.lv, n.lk, n.hi, chK n s.kd s.key, chV n s.kd s.key s.val⟩) := ⟨HR.out, hbt.symm⟩
    have hb47 := (size_of_unp ⟨_, HBT.out⟩)
    clear hbt hb CP A3
    have a1 := A4.out.cell (i := 3) rfl 1 (.bool false) rfl
    have a2 := A4.out.cell (i := 3) rfl 2 (.int .i64 fv) rfl
    have q3 := A4.out.cell (i := 6) rfl 3 (.int .i64 s.step) rfl
    have q9 := A4.out.cell (i := 6) rfl 9 (.string s.sw) rfl
    have q10 := A4.out.cell (i := 6) rfl 10 (.int .i64 s.ver) rfl
    have q11 := A4.out.cell (i := 6) rfl 11 (.bool s.fnd) rfl
    have q12 := A4.out.cell (i := 6) rfl 12 (.int .i64 s.va) rfl
    have f3 := A4.out.free (i := 6) rfl 3
    have f9 := A4.out.free (i := 6) rfl 9
    have f10 := A4.out.free (i := 6) rfl 10
    have f11 := A4.out.free (i := 6) rfl 11
    have f12 := A4.out.free (i := 6) rfl 12
    have hls := A4.out.lt (i := 6) rfl
    have hlh := A4.out.lt (i := 3) rfl
    have q0 := A4.out.cell (i := 6) rfl 0 (.int .i64 s.kd) rfl
    have q1 := A4.out.cell (i := 6) rfl 1 (.int .i64 s.key) rfl
    have q2 := A4.out.cell (i := 6) rfl 2 (.int .i64 s.val) rfl
    have q4 := A4.out.cell (i := 6) rfl 4 (.int .i64 s.pg) rfl
    have q5 := A4.out.cell (i := 6) rfl 5 (.slice ak s.keys.length ck) rfl
    have q6 := A4.out.cell (i := 6) rfl 6 (.slice av s.vals.length cv) rfl
    have q7 := A4.out.cell (i := 6) rfl 7 (.slice ab s.bel.length cb) rfl
    have q8 := A4.out.cell (i := 6) rfl 8 (.slice ap s.pts.length cp) rfl
    have hne := A4.out.bne (i := 3) (j := 6) rfl rfl (by omega)
    have A5 := hideIt (((((A4.out.store (i := 6) (j := 9) rfl (.string b) rfl).store (i := 6) (j := 10) rfl (.int .i64 ver) rfl).store (i := 6) (j := 11) rfl (.bool false) rfl).store (i := 6) (j := 12) rfl (.int .i64 fv) rfl).store (i := 6) (j := 3) rfl (.int .i64 (s.step + 1)) rfl)
    have hvd : decide (ver < 0) = false := by rw [decide_eq_false_iff_not]; omega
    have HSV : Hid (∀ W l, M w0 B W (l ++ fr) → StV W { s with sw := b, ver := ver, fnd := false, va := fv, step := s.step + 1 } (.slice ak s.keys.length ck) (.slice av s.vals.length cv) (.slice ab s.bel.length cb) (.slice ap s.pts.length cp)) := fun W l hm => ⟨owns_rd (hm.holds _ (List.mem_append_right _ HMEM.out.1)).own, owns_rd (hm.holds _ (List.mem_append_right _ HMEM.out.2.1)).own, owns_rd (hm.holds _ (List.mem_append_right _ HMEM.out.2.2.1)).own, owns_rd (hm.holds _ (List.mem_append_right _ HMEM.out.2.2.2.1)).own⟩
    have HSI : Hid (StI { s with sw := b, ver := ver, fnd := false, va := fv, step := s.step + 1 }) := ⟨HI.out.kd, HI.out.key, HI.out.val, by unfold I64; simp only; omega, HI.out.pg, by unfold I64; simp only; omega, by rw [← HFV.out]; exact HFI.out, HI.out.keys, HI.out.vals, HI.out.bel, HI.out.pts, HI.out.keysL, HI.out.valsL, HI.out.belL, HI.out.ptsL, hb47⟩
    go_wp2_with fail
    clear q0 q1 q2 q3 q4 q5 q6 q7 q8 q9 q10 q11 q12 f3 f9 f10 f11 f12 a1 a2 hls hlh hne A4
    refine (frameText_any { s with sw := b, ver := ver, fnd := false, va := fv, step := s.step + 1 } _ _ _ _ _ (HT.out _ _ A5.out) (HSV.out _ [_, _, _, _, _, _, _] A5.out) HSI.out).mono ?_
    rintro e w4 ⟨⟨c, rfl, hc⟩, hb⟩
    have HC := hideIt hc
    have A6 := hideIt (A5.out.below hb)
    clear hc hb A5 HSV HSI
    have r0 := A6.out.cell (i := 4) rfl 0 (.int .i64 0) rfl
    have e0 := A6.out.free (i := 4) rfl 0
    have r1 := A6.out.cell (i := 4) rfl 1 (.bool false) rfl
    have e1 := A6.out.free (i := 4) rfl 1
    have r2 := A6.out.cell (i := 4) rfl 2 (.int .i64 0) rfl
    have e2 := A6.out.free (i := 4) rfl 2
    have r3 := A6.out.cell (i := 4) rfl 3 (.int .i64 0) rfl
    have e3 := A6.out.free (i := 4) rfl 3
    have r4 := A6.out.cell (i := 4) rfl 4 (.slice none 0 0) rfl
    have e4 := A6.out.free (i := 4) rfl 4
    have r5 := A6.out.cell (i := 4) rfl 5 (.slice none 0 0) rfl
    have e5 := A6.out.free (i := 4) rfl 5
    have r6 := A6.out.cell (i := 4) rfl 6 (.slice none 0 0) rfl
    have e6 := A6.out.free (i := 4) rfl 6
    have hla := A6.out.lt (i := 4) rfl
    have S7 := hideIt ((A6.out.store7 (i := 4) rfl (.int .i64 0) (.bool false) (.int .i64 0) (.int .i64 0) (.slice none 0 0) (.slice none 0 0) (.slice none 0 0)).sub (l' := fr) (.cons _ (.cons _ (.cons _ (.cons _ (.cons _ (.cons _ (.cons _ (List.Sublist.refl _)))))))))
    clear A6
    go_wp2
    exact bodyPost_ret (v := .tuple #[.string c, .agg ans0, .bool false, .int .i64 0]) (by simp [results, Tryd.results101, go_sem, ans0, *]) rfl ⟨⟨b, HBT.out, by rw [HFB.out, HFV.out]; exact ⟨c, rfl, HC.out⟩⟩, S7.out⟩
  · clear hk3 hc1 hc2
    go_wp2_with fail
    refine CC.out.mono ?_
    rintro e w2 ⟨kv2, vv2, l2, rfl, hl1, hl2, hl3, hM2⟩
    obtain ⟨ka2, kc2, rfl⟩ := As.form0 (hM2.get (i := 0) rfl)
    obtain ⟨va2, vc2, rfl⟩ := As.form0 (hM2.get (i := 1) rfl)
    have A3 := hideIt (hM2.alloc #[.int .i64 n.lv, .int .i64 n.lk, .int .i64 n.hi, .slice ka2 l2 kc2, .slice va2 l2 vc2] 24)
    have h1 := (A3.out.get (i := 1) rfl).own
    have h2 := (A3.out.get (i := 2) rfl).own
    rw [← hl1] at h1
    rw [← hl2] at h2
    have RK := owns_rd h1
    have RV := owns_rd h2
    rw [hl1] at RK
    rw [hl2] at RV
    have CP := hideIt (pack_any ⟨n.lv, n.lk, n.hi, chK n s.kd s.key, chV n s.kd s.key s.val⟩ (.slice ka2 l2 kc2) (.slice va2 l2 vc2) _ (HT.out _ _ A3.out) RK RV (by show (chK n s.kd s.key).length ≤ _; omega) (by show (chV n s.kd s.key s.val).length ≤ _; omega))
    clear CC a1 a2 n0 n1 n2 n3 n4 q0 q1 q2 A1 hM2 RK RV hl1 hl2 h1 h2
    go_wp2_with fail
    refine CP.out.mono ?_
    rintro e w3 ⟨b, er, rfl, hPk, hbz, hb⟩
    have A4 := hideIt (A3.out.below hb)
    unfold Pk at hPk
    rw [if_pos HR.out] at hPk
    obtain ⟨hbt, rfl⟩ := hPk
    have HBT : Hid (Unp b.data.toList ⟨n.lv, n.lk, n.hi, chK n s.kd s.key, chV n s.kd s.key s.val⟩) := ⟨HR.out, hbt.symm⟩
    have hb47 := (size_of_unp ⟨_, HBT.out⟩)
    clear hbt hb CP A3
    have a1 := A4.out.cell (i := 3) rfl 1 (.bool true) rfl
    have a2 := A4.out.cell (i := 3) rfl 2 (.int .i64 fv) rfl
    have q3 := A4.out.cell (i := 6) rfl 3 (.int .i64 s.step) rfl
    have q9 := A4.out.cell (i := 6) rfl 9 (.string s.sw) rfl
    have q10 := A4.out.cell (i := 6) rfl 10 (.int .i64 s.ver) rfl
    have q11 := A4.out.cell (i := 6) rfl 11 (.bool s.fnd) rfl
    have q12 := A4.out.cell (i := 6) rfl 12 (.int .i64 s.va) rfl
    have f3 := A4.out.free (i := 6) rfl 3
    have f9 := A4.out.free (i := 6) rfl 9
    have f10 := A4.out.free (i := 6) rfl 10
    have f11 := A4.out.free (i := 6) rfl 11
    have f12 := A4.out.free (i := 6) rfl 12
    have hls := A4.out.lt (i := 6) rfl
    have hlh := A4.out.lt (i := 3) rfl
    have q0 := A4.out.cell (i := 6) rfl 0 (.int .i64 s.kd) rfl
    have q1 := A4.out.cell (i := 6) rfl 1 (.int .i64 s.key) rfl
    have q2 := A4.out.cell (i := 6) rfl 2 (.int .i64 s.val) rfl
    have q4 := A4.out.cell (i := 6) rfl 4 (.int .i64 s.pg) rfl
    have q5 := A4.out.cell (i := 6) rfl 5 (.slice ak s.keys.length ck) rfl
    have q6 := A4.out.cell (i := 6) rfl 6 (.slice av s.vals.length cv) rfl
    have q7 := A4.out.cell (i := 6) rfl 7 (.slice ab s.bel.length cb) rfl
    have q8 := A4.out.cell (i := 6) rfl 8 (.slice ap s.pts.length cp) rfl
    have hne := A4.out.bne (i := 3) (j := 6) rfl rfl (by omega)
    have A5 := hideIt (((((A4.out.store (i := 6) (j := 9) rfl (.string b) rfl).store (i := 6) (j := 10) rfl (.int .i64 ver) rfl).store (i := 6) (j := 11) rfl (.bool true) rfl).store (i := 6) (j := 12) rfl (.int .i64 fv) rfl).store (i := 6) (j := 3) rfl (.int .i64 (s.step + 1)) rfl)
    have hvd : decide (ver < 0) = false := by rw [decide_eq_false_iff_not]; omega
    have HSV : Hid (∀ W l, M w0 B W (l ++ fr) → StV W { s with sw := b, ver := ver, fnd := true, va := fv, step := s.step + 1 } (.slice ak s.keys.length ck) (.slice av s.vals.length cv) (.slice ab s.bel.length cb) (.slice ap s.pts.length cp)) := fun W l hm => ⟨owns_rd (hm.holds _ (List.mem_append_right _ HMEM.out.1)).own, owns_rd (hm.holds _ (List.mem_append_right _ HMEM.out.2.1)).own, owns_rd (hm.holds _ (List.mem_append_right _ HMEM.out.2.2.1)).own, owns_rd (hm.holds _ (List.mem_append_right _ HMEM.out.2.2.2.1)).own⟩
    have HSI : Hid (StI { s with sw := b, ver := ver, fnd := true, va := fv, step := s.step + 1 }) := ⟨HI.out.kd, HI.out.key, HI.out.val, by unfold I64; simp only; omega, HI.out.pg, by unfold I64; simp only; omega, by rw [← HFV.out]; exact HFI.out, HI.out.keys, HI.out.vals, HI.out.bel, HI.out.pts, HI.out.keysL, HI.out.valsL, HI.out.belL, HI.out.ptsL, hb47⟩
    go_wp2_with fail
    clear q0 q1 q2 q3 q4 q5 q6 q7 q8 q9 q10 q11 q12 f3 f9 f10 f11 f12 a1 a2 hls hlh hne A4
    refine (frameText_any { s with sw := b, ver := ver, fnd := true, va := fv, step := s.step + 1 } _ _ _ _ _ (HT.out _ _ A5.out) (HSV.out _ [_, _, _, _, _, _, _] A5.out) HSI.out).mono ?_
    rintro e w4 ⟨⟨c, rfl, hc⟩, hb⟩
    have HC := hideIt hc
    have A6 := hideIt (A5.out.below hb)
    clear hc hb A5 HSV HSI
    have r0 := A6.out.cell (i := 4) rfl 0 (.int .i64 0) rfl
    have e0 := A6.out.free (i := 4) rfl 0
    have r1 := A6.out.cell (i := 4) rfl 1 (.bool false) rfl
    have e1 := A6.out.free (i := 4) rfl 1
    have r2 := A6.out.cell (i := 4) rfl 2 (.int .i64 0) rfl
    have e2 := A6.out.free (i := 4) rfl 2
    have r3 := A6.out.cell (i := 4) rfl 3 (.int .i64 0) rfl
    have e3 := A6.out.free (i := 4) rfl 3
    have r4 := A6.out.cell (i := 4) rfl 4 (.slice none 0 0) rfl
    have e4 := A6.out.free (i := 4) rfl 4
    have r5 := A6.out.cell (i := 4) rfl 5 (.slice none 0 0) rfl
    have e5 := A6.out.free (i := 4) rfl 5
    have r6 := A6.out.cell (i := 4) rfl 6 (.slice none 0 0) rfl
    have e6 := A6.out.free (i := 4) rfl 6
    have hla := A6.out.lt (i := 4) rfl
    have S7 := hideIt ((A6.out.store7 (i := 4) rfl (.int .i64 0) (.bool false) (.int .i64 0) (.int .i64 0) (.slice none 0 0) (.slice none 0 0) (.slice none 0 0)).sub (l' := fr) (.cons _ (.cons _ (.cons _ (.cons _ (.cons _ (.cons _ (.cons _ (List.Sublist.refl _)))))))))
    clear A6
    go_wp2
    exact bodyPost_ret (v := .tuple #[.string c, .agg ans0, .bool false, .int .i64 0]) (by simp [results, Tryd.results101, go_sem, ans0, *]) rfl ⟨⟨b, HBT.out, by rw [HFB.out, HFV.out]; exact ⟨c, rfl, HC.out⟩⟩, S7.out⟩

end Go.Proofs.YtjpgldeeopmbgaaDoor.Sap

/- WHAT IS PROVED HERE: what tree.tellSwap answers: an operation whose Swap was done has ended; else its page is read again. Conditions: named at each theorem. -/
namespace Go.Proofs.YtjpgldeeopmbgaaDoor.Sap
open Go.RowKit

/-- The state in which the page is read again. -/
def stAgain (s : St) : St := ⟨s.kd, s.key, s.val, s.step, 0, [], [], [], [], ⟨#[]⟩, 0, false, 0⟩

set_option maxRecDepth 100000 in
set_option maxHeartbeats 1600000 in
theorem tellSwap_done (s : St) (kv vv bv pv : Value) (w : World) (hv : StV w s kv vv bv pv) :
    Calls Tryd.prog 96 #[.agg #[.int .i64 s.kd, .int .i64 s.key, .int .i64 s.val, .int .i64 s.step, .int .i64 s.pg, kv, vv, bv, pv, .string s.sw, .int .i64 s.ver, .bool s.fnd, .int .i64 s.va], .bool true] w fun e w' => e = .returned (.tuple #[.string ⟨#[]⟩, .agg #[.int .i64 0, .bool s.fnd, .int .i64 s.va, .int .i64 s.step, .slice none 0 0, .slice none 0 0, .slice none 0 0], .bool true, .int .i64 0]) ∧ Below w.heap.size w w' := by
  obtain ⟨ak, ck, rfl⟩ := hv.keys.len
  obtain ⟨av, cv, rfl⟩ := hv.vals.len
  obtain ⟨ab, cb, rfl⟩ := hv.bel.len
  obtain ⟨ap, cp, rfl⟩ := hv.pts.len
  have HB2 : Hid (∀ o1 o2, Below w.heap.size w (((w.alloc o1).alloc o2).drew)) := fun o1 o2 => (((M.start w).allocd o1).allocd o2).drew.bl
  clear hv
  go_enter Tryd.func96, Tryd.ntmps96
  go_wp2
  go_region
  go_wp2
  refine bodyPost_ret (v := .tuple #[.string ⟨#[]⟩, .agg #[.int .i64 0, .bool s.fnd, .int .i64 s.va, .int .i64 s.step, .slice none 0 0, .slice none 0 0, .slice none 0 0], .bool true, .int .i64 0]) (by simp [results, Tryd.results96, go_sem, *]) rfl ⟨rfl, ?_⟩
  exact HB2.out _ _

set_option maxRecDepth 100000 in
set_option maxHeartbeats 1600000 in
theorem tellSwap_not (s : St) (kv vv bv pv : Value) (w : World) (htab : Tab w) (hv : StV w s kv vv bv pv) (hi : StI s) (hs : s.step ≤ 1000000000) (hs0 : 0 ≤ s.step) (hn : 0 ≤ s.pg) :
    Calls Tryd.prog 96 #[.agg #[.int .i64 s.kd, .int .i64 s.key, .int .i64 s.val, .int .i64 s.step, .int .i64 s.pg, kv, vv, bv, pv, .string s.sw, .int .i64 s.ver, .bool s.fnd, .int .i64 s.va], .bool false] w fun e w' => OnR { stAgain s with pg := s.pg, step := s.step + 1 } e ∧ Below w.heap.size w w' := by
  obtain ⟨ak, ck, rfl⟩ := hv.keys.len
  obtain ⟨av, cv, rfl⟩ := hv.vals.len
  obtain ⟨ab, cb, rfl⟩ := hv.bel.len
  obtain ⟨ap, cp, rfl⟩ := hv.pts.len
  have A0 := (((M.start w).alloc #[.int .i64 s.kd, .int .i64 s.key, .int .i64 s.val, .int .i64 s.step, .int .i64 s.pg, .slice ak s.keys.length ck, .slice av s.vals.length cv, .slice ab s.bel.length cb, .slice ap s.pts.length cp, .string s.sw, .int .i64 s.ver, .bool s.fnd, .int .i64 s.va] 104).alloc #[.int .i64 0, .bool false, .int .i64 0, .int .i64 0, .slice none 0 0, .slice none 0 0, .slice none 0 0] 66).alloc #[.int .i64 s.kd, .int .i64 s.key, .int .i64 s.val, .int .i64 s.step, .int .i64 0, .slice none 0 0, .slice none 0 0, .slice none 0 0, .slice none 0 0, .string ⟨#[]⟩, .int .i64 0, .bool false, .int .i64 0] 104
  rw [alloc_size, alloc_size] at A0
  have HA := hideIt A0
  have C := hideIt (fun W (hb : Below w.heap.size w W) => goOn_any (stAgain s) s.pg (.slice none 0 0) (.slice none 0 0) (.slice none 0 0) (.slice none 0 0) W (htab.below hb) ⟨rd_nil _, rd_nil _, rd_nil _, rd_nil _⟩ ⟨hi.kd, hi.key, hi.val, by unfold I64; simp only [stAgain]; omega, hi.pg, by unfold I64; simp [stAgain], by unfold I64; simp [stAgain], by simp [stAgain], by simp [stAgain], by simp [stAgain], by simp [stAgain], by simp [stAgain], by simp [stAgain], by simp [stAgain], by simp [stAgain], by show (⟨#[]⟩ : ByteArray).size ≤ 47; decide⟩ hs hs0 hn)
  clear hv hi A0 htab
  go_enter Tryd.func96, Tryd.ntmps96
  go_wp2_with fail
  refine (C.out _ HA.out.bl).mono ?_
  rintro e w1 ⟨⟨c, rfl, hc⟩, hb⟩
  have HC := hideIt hc
  have A1 := hideIt (HA.out.below hb)
  clear hc hb C HA
  obtain ⟨gs, hgs⟩ : ∃ g, w.heap.size = g := ⟨_, rfl⟩
  have HGS := hideIt hgs
  rw [hgs] at A1 ⊢
  clear hgs
  have r0 := A1.out.cell (i := 1) rfl 0 (.int .i64 0) rfl
  have e0 := A1.out.free (i := 1) rfl 0
  have r1 := A1.out.cell (i := 1) rfl 1 (.bool false) rfl
  have e1 := A1.out.free (i := 1) rfl 1
  have r2 := A1.out.cell (i := 1) rfl 2 (.int .i64 0) rfl
  have e2 := A1.out.free (i := 1) rfl 2
  have r3 := A1.out.cell (i := 1) rfl 3 (.int .i64 0) rfl
  have e3 := A1.out.free (i := 1) rfl 3
  have r4 := A1.out.cell (i := 1) rfl 4 (.slice none 0 0) rfl
  have e4 := A1.out.free (i := 1) rfl 4
  have r5 := A1.out.cell (i := 1) rfl 5 (.slice none 0 0) rfl
  have e5 := A1.out.free (i := 1) rfl 5
  have r6 := A1.out.cell (i := 1) rfl 6 (.slice none 0 0) rfl
  have e6 := A1.out.free (i := 1) rfl 6
  have hla := A1.out.lt (i := 1) rfl
  have S7 := hideIt (A1.out.store7 (i := 1) rfl (.int .i64 0) (.bool false) (.int .i64 0) (.int .i64 0) (.slice none 0 0) (.slice none 0 0) (.slice none 0 0)).bl
  clear A1
  rw [ans0]
  go_wp2
  refine bodyPost_ret (v := .tuple #[.string c, .agg ans0, .bool false, .int .i64 0]) (by simp [results, Tryd.results96, go_sem, ans0, *]) rfl ⟨⟨c, rfl, HC.out⟩, ?_⟩
  rw [HGS.out]
  exact S7.out
end Go.Proofs.YtjpgldeeopmbgaaDoor.Sap

/- WHAT IS PROVED HERE: plain facts: over pages that stand, each look of a Get leads nearer to its key's leaf, and the leaf has what the map has (no program's function is walked). Conditions: none but those named at each theorem. -/
namespace Go.Proofs.YtjpgldeeopmbgaaDoor.Sap
open Go.RowKit

theorem chl_spec (ks vs : List Int) (key : Int) (k : Nat) (hk : k ≤ ks.length) (h0 : 0 < k) (hle : ks[0]?.getD 0 ≤ key) : ∃ i, i < k ∧ ks[i]?.getD 0 ≤ key ∧ chl ks vs key k = vs[i]?.getD 0 := by
  induction k with
  | zero => omega
  | succ k ih =>
    by_cases h : ks[k]?.getD 0 ≤ key
    · exact ⟨k, by omega, h, by rw [chl, if_pos h]⟩
    · have hk0 : 0 < k := by
        rcases Nat.eq_zero_or_pos k with rfl | h1
        · exact absurd hle h
        · exact h1
      obtain ⟨i, h1, h2, h3⟩ := ih (by omega) hk0
      exact ⟨i, by omega, h2, by rw [chl, if_neg h]; exact h3⟩

theorem fnd_none (ks vs : List Int) (key : Int) (k : Nat) (h : ∀ i, i < k → ks[i]?.getD 0 ≠ key) : fndB ks key k = false ∧ fndV ks vs key k = 0 := by
  induction k with
  | zero => exact ⟨rfl, rfl⟩
  | succ k ih =>
    have h1 := ih (fun i hi => h i (by omega))
    have h2 := h k (by omega)
    exact ⟨by rw [fndB, if_neg h2]; exact h1.1, by rw [fndV, if_neg h2]; exact h1.2⟩
theorem fnd_some (ks vs : List Int) (key : Int) (k i : Nat) (hi : i < k) (he : ks[i]?.getD 0 = key) (h : ∀ j, i < j → j < k → ks[j]?.getD 0 ≠ key) : fndB ks key k = true ∧ fndV ks vs key k = vs[i]?.getD 0 := by
  induction k with
  | zero => omega
  | succ k ih =>
    by_cases hk : i = k
    · subst hk
      exact ⟨by rw [fndB, if_pos he], by rw [fndV, if_pos he]⟩
    · have h1 := ih (by omega) (fun j h1 h2 => h j h1 (by omega))
      have h2 := h k (by omega) (by omega)
      exact ⟨by rw [fndB, if_neg h2]; exact h1.1, by rw [fndV, if_neg h2]; exact h1.2⟩

theorem zip_at {a b : List Int} {i : Nat} {x y : Int} (ha : a[i]? = some x) (hb : b[i]? = some y) : (x, y) ∈ a.zip b := by
  refine List.mem_of_getElem? (i := i) ?_
  rw [List.getElem?_zip_eq_some]; exact ⟨ha, hb⟩

/-- The leaf of a key has for it what the map has. -/
theorem get_found {K V ks vs : List Int} {key l h : Int} {fd : Bool} {v : Int} (hks : ks.Pairwise (· < ·)) (hlen : ks.length = vs.length) (hf : (K.zip V).filter (fun x => decide (l ≤ x.1) && decide (x.1 < h)) = ks.zip vs)
    (hlo : l ≤ key) (hhi : key < h) (hV : ValR K V key fd v) : fd = fndB ks key ks.length ∧ v = fndV ks vs key ks.length := by
  have hdis : ∀ i j, i < j → j < ks.length → ks[i]?.getD 0 < ks[j]?.getD 0 := by
    intro i j hij hj
    have := List.pairwise_iff_getElem.1 hks i j (by omega) hj hij
    simpa [List.getElem?_eq_getElem (show i < ks.length by omega), List.getElem?_eq_getElem hj] using this
  rcases hV with ⟨rfl, rfl, hno⟩ | ⟨i, rfl, h1, h2, -⟩
  · have hnk : ∀ i, i < ks.length → ks[i]?.getD 0 ≠ key := by
      intro i hi e
      apply hno
      rw [List.getElem?_eq_getElem hi] at e
      simp at e
      have hm : (ks[i], vs[i]'(by omega)) ∈ ks.zip vs := zip_at (List.getElem?_eq_getElem hi) (List.getElem?_eq_getElem (by omega))
      rw [← hf] at hm
      have := (List.mem_filter.1 hm).1
      rw [← e]
      exact mem_zip_key this
    have := fnd_none ks vs key ks.length hnk
    exact ⟨this.1.symm, this.2.symm⟩
  · have hm : (key, v) ∈ ks.zip vs := by
      rw [← hf]
      refine List.mem_filter.2 ⟨zip_at h1 h2, ?_⟩
      simp [hlo, hhi]
    obtain ⟨j, hj⟩ := List.mem_iff_getElem?.1 hm
    rw [List.getElem?_zip_eq_some] at hj
    have hjl : j < ks.length := (List.getElem?_eq_some_iff.1 hj.1).1
    have := fnd_some ks vs key ks.length j hjl (by rw [hj.1]; rfl) (fun i h1 h2 e => by
      have := hdis j i h1 h2
      rw [hj.1] at this
      simp only [Option.getD_some] at this
      omega)
    rw [hj.2] at this
    exact ⟨this.1.symm, this.2.symm⟩

/-- From a page whose node is not the key's leaf a look leads on, to one whose rank is less. -/
theorem look_on {T : List ByteArray} {p0 : Nat} {KV : List (Int × Int)} {rk : Nat → Nat} {lo : Nat → Int} (hT : Tree T p0 KV rk lo) {p : Nat} {n : Nd} {key : Int} (hA : AtP T 0 p0 p n) (hk1 : lo p ≤ key) (hk2 : key ≤ 9999) (hgo : n.lv ≠ 0 ∨ n.hi ≤ key) :
    ∃ q m, onwV n key = ((q : Nat) : Int) ∧ AtP T 0 p0 q m ∧ lo q ≤ key ∧ rk q < rk p := by
  obtain ⟨n', hA', hS⟩ := hT.ok p hA.2.1
  have e := hA.uniq hA'
  subst e
  by_cases hh : n.hi ≤ key
  · obtain ⟨q, m, a1, a2, -, a4, a5⟩ := hS.link (by omega)
    exact ⟨q, m, by unfold onwV; rw [if_pos hh]; exact a1, a2, by rw [a4]; exact hh, a5⟩
  · have hlv : n.lv ≠ 0 := by rcases hgo with h | h; exact h; exact absurd h hh
    obtain ⟨b1, b2⟩ := hS.kids hlv
    have hr := right_bd n (by obtain ⟨-, -, t, -, hu⟩ := hA; exact hu.1)
    have hlen : n.ks.length = n.vs.length := hr.2.2.2.1
    have hpos : 0 < n.ks.length := by
      rcases Nat.eq_zero_or_pos n.ks.length with h | h
      · rw [List.eq_nil_of_length_eq_zero h] at b1; cases b1
      · exact h
    obtain ⟨i, h1, h2, h3⟩ := chl_spec n.ks n.vs key n.ks.length (Nat.le_refl _) hpos (by rw [b1]; exact hk1)
    have hvi : i < n.vs.length := by omega
    obtain ⟨q, m, a1, a2, a3, a4⟩ := b2 i _ _ (List.getElem?_eq_getElem h1) (List.getElem?_eq_getElem hvi)
    rw [List.getElem?_eq_getElem h1] at h2
    rw [List.getElem?_eq_getElem hvi] at h3
    simp only [Option.getD_some] at h2 h3
    exact ⟨q, m, by unfold onwV; rw [if_neg hh, h3]; exact a1, a2, by rw [a3]; exact h2, a4⟩
end Go.Proofs.YtjpgldeeopmbgaaDoor.Sap
