/- WHAT IS PROVED HERE: tree.rightScan answers true of what a Scan may have seen; tree.readFrame gives back the state whose frame it is; tree.Next asks for Read of its page. Conditions: the state is one that an operation may be in (StOk). -/
import Derived.Test.YtajobgmnmbnhiaaGreatDoorXT4T5
import Derived.Test.YtajobgmnmbnhiaaGreatDoorW11
namespace Go.Proofs.YtajobgmnmbnhiaaGreatDoor.Sap
open Go.RowKit

/-- A state that an operation may be in. -/
structure StOk (s : St) : Prop where
  op : opR s.kd s.key s.val = true
  val : Fr s.val
  step : Fr s.step
  pg : 0 ≤ s.pg ∧ s.pg ≤ 63
  keys : ∀ x ∈ s.keys, Fr x
  vals : ∀ x ∈ s.vals, Fr x
  pts : ∀ x ∈ s.pts, Fr x
  kl : s.keys.length = s.vals.length
  kl12 : s.keys.length < 12
  bl : s.bel.length = s.pts.length
  bl64 : s.bel.length ≤ 64
  bel : keysOk (s.val + 1) (s.key + 1) s.bel = true
  seen : s.kd = 4 ∨ (s.keys = [] ∧ s.vals = [] ∧ s.bel = [] ∧ s.pts = [])
  ver : Fr s.ver
  laid : Fr s.laid
  lv : Fr s.lv
  low : Fr s.low
  ch : Fr s.ch
  pt : Fr s.pt
  swL : s.sw.size ≤ 47
  sw : (s.sw = ⟨#[]⟩ ∧ s.ver = 0 ∧ s.laid = 0) ∨ (s.sw ≠ ⟨#[]⟩ ∧ (s.kd = 2 ∨ s.kd = 3))
  sp : ∀ x ∈ s.sp, 1 ≤ x ∧ x ≤ 63
  sv : ∀ x ∈ s.sv, Fr x
  spk : s.kd = 2 ∨ s.sp = []
  spl : s.sp.length = s.sv.length
  sp2 : s.sp.length ≤ 2
  laidL : s.laid ≤ s.sp.length
  ent : (s.lv = 0 ∧ s.low = 0 ∧ s.ch = 0 ∧ s.pt = 0) ∨ (1 ≤ s.lv ∧ s.lv ≤ 9 ∧ s.kd = 2 ∧ s.pt < s.step ∧ 1 ≤ s.low ∧ s.low ≤ 9999 ∧ 1 ≤ s.ch ∧ s.ch ≤ 63)

theorem StOk.rng {s : St} (h : StOk s) : 1 ≤ s.kd ∧ s.kd ≤ 4 ∧ 1 ≤ s.key ∧ s.key ≤ 9999 := by
  have := h.op
  simp only [opR, Bool.and_eq_true, Bool.or_eq_true, decide_eq_true_eq] at this
  omega

theorem StOk.belFr {s : St} (h : StOk s) : ∀ x ∈ s.bel, Fr x := by
  intro x hx
  have h1 := keysOk_all _ _ _ h.bel x hx
  have h2 := h.rng
  have h3 := h.val
  unfold Fr at h3 ⊢
  omega
theorem unp_size {t : ByteArray} (h : ∃ n, Unp t.data.toList n) : 1 ≤ t.size ∧ t.size ≤ 47 := by
  obtain ⟨n, hn⟩ := h
  have h1 := len_packT n hn.1
  rw [hn.2, ba_size] at h1
  exact ⟨by have := h1.1; omega, h1.2⟩
theorem nonempty_of {t : ByteArray} (h : t ≠ ⟨#[]⟩) : t.toList.isEmpty = false := by
  rw [ByteArray.toList_eq]
  cases hl : t.data.toList with
  | nil => exact absurd (ba_ext (b := ⟨#[]⟩) (by rw [hl])) h
  | cons _ _ => rfl
theorem StOk.spFr {s : St} (h : StOk s) : ∀ x ∈ s.sp, Fr x := by
  intro x hx
  have := h.sp x hx
  unfold Fr; omega
theorem nat_of {x : Int} (h : Fr x) : ∃ n : Nat, x = (n : Int) ∧ n ≤ 100000000000000000 := ⟨x.toNat, by have := h.1; omega, by have := h.2; omega⟩
theorem StOk.frKd {s : St} (h : StOk s) : Fr s.kd := by have := h.rng; unfold Fr; omega
theorem StOk.frKey {s : St} (h : StOk s) : Fr s.key := by have := h.rng; unfold Fr; omega
theorem StOk.frPg {s : St} (h : StOk s) : Fr s.pg := by have := h.pg; unfold Fr; omega
theorem StOk.i {s : St} (h : StOk s) : StI s := by
  have h2 := h.rng
  have h3 := h.pg
  have h4 := h.kl12
  have h5 := h.kl
  have h6 := h.bl
  have h7 := h.bl64
  have h8 := h.sp2
  have h9 := h.spl
  exact ⟨by unfold I64; omega, by unfold I64; omega, h.val.i, h.step.i, by unfold I64; omega, h.ver.i, h.laid.i, h.lv.i, h.low.i, h.ch.i, h.pt.i, fun x hx => (h.keys x hx).i, fun x hx => (h.vals x hx).i, fun x hx => (h.belFr x hx).i, fun x hx => (h.pts x hx).i, fun x hx => (h.spFr x hx).i, fun x hx => (h.sv x hx).i, by omega, by omega, by omega, by omega, by omega, by omega, h.swL⟩

set_option maxRecDepth 100000 in
set_option maxHeartbeats 1600000 in
theorem rightScan_yes (s : St) (kv vv bv pv xv yv : Value) (w : World) (hv : StV w s kv vv bv pv xv yv) (hok : StOk s) :
    Calls Tryz.prog 97 #[.agg #[.int .i64 s.kd, .int .i64 s.key, .int .i64 s.val, .int .i64 s.step, .int .i64 s.pg, kv, vv, bv, pv, .string s.sw, .int .i64 s.ver, xv, yv, .int .i64 s.laid, .int .i64 s.lv, .int .i64 s.low, .int .i64 s.ch, .int .i64 s.pt]] w fun e w' => e = .returned (.bool true) ∧ Below w.heap.size w w' := by
  by_cases hk4 : s.kd = 4
  case neg =>
    obtain ⟨ak, ck, rfl⟩ := hv.keys.len
    obtain ⟨av, cv, rfl⟩ := hv.vals.len
    obtain ⟨ab, cb, rfl⟩ := hv.bel.len
    obtain ⟨ap, cp, rfl⟩ := hv.pts.len
    obtain ⟨ax, cx, rfl⟩ := hv.sp.len
    obtain ⟨ay, cy, rfl⟩ := hv.sv.len
    rcases hok.seen with h | ⟨h1, h2, h3, h4⟩
    · exact absurd h hk4
    rw [h1, h2, h3, h4]
    have hkb : (s.kd == 4) = false := by simp [hk4]
    have hkb2 : (s.kd != 4) = true := by simp [hk4]
    have HB0 : Hid (∀ o, Below w.heap.size w (w.alloc o)) := fun o => (Below.refl _ _).alloc (Nat.le_refl _) o
    clear hv hok h1 h2 h3 h4
    go_enter Tryz.func97, Tryz.ntmps97
    go_wp2
    go_ret
    exact ⟨rfl, HB0.out _⟩
  obtain ⟨ak, ck, rfl⟩ := hv.keys.len
  obtain ⟨av, cv, rfl⟩ := hv.vals.len
  obtain ⟨ab, cb, rfl⟩ := hv.bel.len
  obtain ⟨ap, cp, rfl⟩ := hv.pts.len
  obtain ⟨ax, cx, rfl⟩ := hv.sp.len
  obtain ⟨ay, cy, rfl⟩ := hv.sv.len
  have HR := hideIt hv.bel
  have hkl := hok.kl
  have hk12 : (s.keys.length : Int) < 12 := by have := hok.kl12; omega
  have hbl := hok.bl
  have hb64 := hok.bl64
  have HB := hideIt hok.bel
  have hrng := hok.rng
  have hkey : s.key ≤ 9999 := by omega
  have hkey1 : 1 ≤ s.key := by omega
  have hval : s.val ≤ 100000000000000000 := hok.val.2
  obtain ⟨m, hm⟩ : ∃ m, s.bel.length = m := ⟨_, rfl⟩
  obtain ⟨q, hq⟩ : ∃ q, s.keys.length = q := ⟨_, rfl⟩
  rw [← hkl, ← hbl, hm, hq]
  rw [hq] at hk12
  rw [hm] at hb64 HR
  have HM := hideIt hm
  clear hkl hbl hok hv hm hq hrng
  rw [hk4]
  go_enter Tryz.func97, Tryz.ntmps97
  go_wp2
  go_loopw [3, 4] (fun t i wr => ∃ k d : Nat, k ≤ m ∧ i = .int .i64 k ∧ t = .int .i64 (lo (s.key + 1) s.bel k) ∧ wr = (w.alloc (.cells #[.int .i64 4, .int .i64 s.key, .int .i64 s.val, .int .i64 s.step, .int .i64 s.pg, .slice ak q ck, .slice av q cv, .slice ab m cb, .slice ap m cp, .string s.sw, .int .i64 s.ver, .slice ax s.sp.length cx, .slice ay s.sv.length cy, .int .i64 s.laid, .int .i64 s.lv, .int .i64 s.low, .int .i64 s.ch, .int .i64 s.pt] 92)).drewN d) (fun _ i _ => m - (intOf i).toNat)
  case atStart => exact ⟨0, 0, Nat.zero_le _, rfl, rfl, rfl⟩
  case round =>
    obtain ⟨k, d, hk, rfl, rfl, rfl⟩ := hrel
    by_cases hlt : k < m
    · obtain ⟨b1, o1, rfl, -, x1⟩ := HR.out.elem k hlt
      have y1 : ∀ p, (w.alloc p).cell? ⟨b1, o1 + k, none⟩ = some (.int .i64 (s.bel[k]?.getD 0)) := fun p => x1 _ ((Below.refl _ _).alloc (Nat.le_refl _) p)
      have hkk : (0 : Int) ≤ (k : Int) := by omega
      have hkl : (k : Int) < (m : Int) := by omega
      have hat := keysOk_at _ _ _ HB.out k (by rw [HM.out]; exact hlt)
      obtain ⟨bk, hbk⟩ : ∃ bk, s.bel[k]?.getD 0 = bk := ⟨_, rfl⟩
      obtain ⟨l, hl⟩ : ∃ l, lo (s.key + 1) s.bel k = l := ⟨_, rfl⟩
      have HL : Hid (lo (s.key + 1) s.bel (k + 1) = bk + 1) := by show s.bel[k]?.getD 0 + 1 = bk + 1; rw [hbk]
      rw [hbk] at y1 hat
      rw [hl] at hat ⊢
      have h1 : decide (bk < l) = false := by rw [decide_eq_false_iff_not]; omega
      have h2 : decide (s.val < bk) = false := by rw [decide_eq_false_iff_not]; omega
      have h3 : bk ≤ 100000000000000000 := by omega
      have h4 : -100 ≤ bk := by
        have := keysOk_all _ _ _ HB.out bk (by rw [← hbk]; exact mem_at (by rw [HM.out]; exact hlt))
        omega
      clear x1 hat hbk hl
      go_wp2
      go_quiet (fail)
      go_wp2
      go_roundw
      case rel => exact ⟨k + 1, _, by omega, by go_num, by rw [HL.out], rfl⟩
      case measure => simp [intOf]; omega
    · go_wp2
      go_ret
      refine ⟨rfl, ?_⟩
      have hb := (Below.refl w.heap.size w).alloc (Nat.le_refl _) (.cells #[.int .i64 4, .int .i64 s.key, .int .i64 s.val, .int .i64 s.step, .int .i64 s.pg, .slice ak q ck, .slice av q cv, .slice ab m cb, .slice ap m cp, .string s.sw, .int .i64 s.ver, .slice ax s.sp.length cx, .slice ay s.sv.length cy, .int .i64 s.laid, .int .i64 s.lv, .int .i64 s.low, .int .i64 s.ch, .int .i64 s.pt] 92)
      exact ⟨hb.os, hb.tape, hb.output, hb.size, hb.block⟩

set_option maxRecDepth 100000 in
set_option maxHeartbeats 1600000 in
theorem rightSeen_yes (s : St) (kv vv bv pv xv yv : Value) (w : World) (hv : StV w s kv vv bv pv xv yv) (hok : StOk s) :
    Calls Tryz.prog 98 #[.agg #[.int .i64 s.kd, .int .i64 s.key, .int .i64 s.val, .int .i64 s.step, .int .i64 s.pg, kv, vv, bv, pv, .string s.sw, .int .i64 s.ver, xv, yv, .int .i64 s.laid, .int .i64 s.lv, .int .i64 s.low, .int .i64 s.ch, .int .i64 s.pt]] w fun e w' => e = .returned (.bool true) ∧ Below w.heap.size w w' := by
  obtain ⟨ak, ck, rfl⟩ := hv.keys.len
  obtain ⟨av, cv, rfl⟩ := hv.vals.len
  obtain ⟨ab, cb, rfl⟩ := hv.bel.len
  obtain ⟨ap, cp, rfl⟩ := hv.pts.len
  obtain ⟨ax, cx, rfl⟩ := hv.sp.len
  obtain ⟨ay, cy, rfl⟩ := hv.sv.len
  have HB0 : Hid (∀ o, Below w.heap.size w (w.alloc o)) := fun o => (Below.refl _ _).alloc (Nat.le_refl _) o
  rcases hok.sw with ⟨h1, h2, h3⟩ | ⟨h1, h2⟩
  · rw [h1, h2, h3]
    clear hok hv h1 h2 h3
    go_enter Tryz.func98, Tryz.ntmps98
    go_wp2
    go_ret
    exact ⟨rfl, HB0.out _⟩
  · have hneb : s.sw.toList.isEmpty = false := nonempty_of h1
    clear hok hv h1
    rcases h2 with hk | hk
    all_goals
      rw [hk]
      clear hk
      go_enter Tryz.func98, Tryz.ntmps98
      go_wp2
      go_ret
      exact ⟨rfl, HB0.out _⟩

set_option maxRecDepth 100000 in
theorem isChild_any (n : Int) (w : World) : Calls Tryz.prog 93 #[.int .i64 n] w fun e w' => e = .returned (.bool (decide (1 ≤ n) && decide (n < 64))) ∧ w' = w := by
  by_cases h1 : 1 ≤ n
  · go_enter Tryz.func93, Tryz.ntmps93
    go_wp2
    go_ret
    refine ⟨ret_bool ?_, rfl⟩
    simp [h1]
  · have h2 : decide (1 ≤ n) = false := decide_eq_false h1
    go_enter Tryz.func93, Tryz.ntmps93
    go_wp2
    go_ret
    exact ⟨rfl, rfl⟩

set_option maxRecDepth 100000 in
set_option maxHeartbeats 1600000 in
theorem rightEntry_yes (s : St) (kv vv bv pv xv yv : Value) (w : World) (hv : StV w s kv vv bv pv xv yv) (hok : StOk s) :
    Calls Tryz.prog 100 #[.agg #[.int .i64 s.kd, .int .i64 s.key, .int .i64 s.val, .int .i64 s.step, .int .i64 s.pg, kv, vv, bv, pv, .string s.sw, .int .i64 s.ver, xv, yv, .int .i64 s.laid, .int .i64 s.lv, .int .i64 s.low, .int .i64 s.ch, .int .i64 s.pt]] w fun e w' => e = .returned (.bool true) ∧ Below w.heap.size w w' := by
  obtain ⟨ak, ck, rfl⟩ := hv.keys.len
  obtain ⟨av, cv, rfl⟩ := hv.vals.len
  obtain ⟨ab, cb, rfl⟩ := hv.bel.len
  obtain ⟨ap, cp, rfl⟩ := hv.pts.len
  obtain ⟨ax, cx, rfl⟩ := hv.sp.len
  obtain ⟨ay, cy, rfl⟩ := hv.sv.len
  have HB0 : Hid (∀ o, Below w.heap.size w (w.alloc o)) := fun o => (Below.refl _ _).alloc (Nat.le_refl _) o
  rcases hok.ent with ⟨h1, h2, h3, h4⟩ | ⟨h1, h2, h3, h4, h5, h6, h7, h8⟩
  · rw [h1, h2, h3, h4]
    clear hok hv h1 h2 h3 h4
    go_enter Tryz.func100, Tryz.ntmps100
    go_wp2
    go_ret
    exact ⟨rfl, HB0.out _⟩
  · rw [h3]
    have b1 : (s.lv == 0) = false := by simp; omega
    have b2 : decide (9 < s.lv) = false := by rw [decide_eq_false_iff_not]; omega
    have b3 : decide (s.step ≤ s.pt) = false := by rw [decide_eq_false_iff_not]; omega
    have hc : (decide (1 ≤ s.ch) && decide (s.ch < 64)) = true := by simp; omega
    have HC := hideIt hc
    clear hok hv h1 h2 h3 h4 hc
    go_enter Tryz.func100, Tryz.ntmps100
    go_wp2_with (refine (isChild_any _ _).mono ?_; rintro e w1 ⟨rfl, rfl⟩; rw [HC.out])
    go_ret
    exact ⟨rfl, HB0.out _⟩

end Go.Proofs.YtajobgmnmbnhiaaGreatDoor.Sap

/- WHAT IS PROVED HERE: tree.rightSpares answers true of the pages that an operation may have made. Conditions: the state is one that an operation may be in (StOk). -/
namespace Go.Proofs.YtajobgmnmbnhiaaGreatDoor.Sap
open Go.RowKit

set_option maxRecDepth 100000 in
set_option maxHeartbeats 1600000 in
theorem rightSpares_yes (s : St) (kv vv bv pv xv yv : Value) (w : World) (hv : StV w s kv vv bv pv xv yv) (hok : StOk s) :
    Calls Tryz.prog 99 #[.agg #[.int .i64 s.kd, .int .i64 s.key, .int .i64 s.val, .int .i64 s.step, .int .i64 s.pg, kv, vv, bv, pv, .string s.sw, .int .i64 s.ver, xv, yv, .int .i64 s.laid, .int .i64 s.lv, .int .i64 s.low, .int .i64 s.ch, .int .i64 s.pt]] w fun e w' => e = .returned (.bool true) ∧ Below w.heap.size w w' := by
  obtain ⟨ak, ck, rfl⟩ := hv.keys.len
  obtain ⟨av, cv, rfl⟩ := hv.vals.len
  obtain ⟨ab, cb, rfl⟩ := hv.bel.len
  obtain ⟨ap, cp, rfl⟩ := hv.pts.len
  obtain ⟨ax, cx, rfl⟩ := hv.sp.len
  obtain ⟨ay, cy, rfl⟩ := hv.sv.len
  have HB0 : Hid (∀ o, Below w.heap.size w (w.alloc o)) := fun o => (Below.refl _ _).alloc (Nat.le_refl _) o
  have HR := hideIt hv.sp
  have HR2 := hideIt hv.sv
  have HS := hideIt hok.sp
  have HV := hideIt hok.sv
  have hk := hok.spk
  have hl2 := hok.sp2
  have hspl := hok.spl
  have hlaid : s.laid ≤ (s.sp.length : Int) := hok.laidL
  obtain ⟨m, hm⟩ : ∃ m, s.sp.length = m := ⟨_, rfl⟩
  have HM := hideIt hm
  have HM2 : Hid (s.sv.length = m) := by unfold Hid; omega
  rw [← hspl, hm] at HR2 ⊢
  rw [hm] at HR hl2 hlaid
  have hkz : s.kd = 2 ∨ m = 0 := by
    rcases hk with h | h
    · exact Or.inl h
    · right; rw [← hm, h]; rfl
  have b3 : decide ((2 : Int) < (m : Int)) = false := by rw [decide_eq_false_iff_not]; omega
  have hl2i : (m : Int) ≤ 2 := by omega
  have b2 : decide ((m : Int) < s.laid) = false := by rw [decide_eq_false_iff_not]; omega
  have HB0' : Hid (∀ o d, Below w.heap.size w ((w.alloc o).drewN d)) := fun o d => by have hb := (Below.refl w.heap.size w).alloc (Nat.le_refl _) o; exact ⟨hb.os, hb.tape, hb.output, hb.size, hb.block⟩
  clear hspl hm hv hok hk HB0
  have hcs : (s.kd != 2) = false ∨ ((s.kd != 2) = true ∧ m = 0) := by
    by_cases h2 : s.kd = 2
    · left; rw [h2]; rfl
    · right
      rcases hkz with h | h
      · exact absurd h h2
      · exact ⟨by simp [h2], h⟩
  clear hkz
  rcases hcs with hkb | ⟨hkb, rfl⟩
  case inr =>
    go_enter Tryz.func99, Tryz.ntmps99
    have hlz : decide ((0 : Int) < s.laid) = false := b2
    have hlz2 : s.laid ≤ 0 := hlaid
    rw [show ((0 : Nat) : Int) = 0 from rfl] at *
    go_wp2
    go_loopw [3] (fun i wr => i = .int .i64 0 ∧ wr = w.alloc (.cells #[.int .i64 s.kd, .int .i64 s.key, .int .i64 s.val, .int .i64 s.step, .int .i64 s.pg, .slice ak s.keys.length ck, .slice av s.vals.length cv, .slice ab s.bel.length cb, .slice ap s.pts.length cp, .string s.sw, .int .i64 s.ver, .slice ax 0 cx, .slice ay 0 cy, .int .i64 s.laid, .int .i64 s.lv, .int .i64 s.low, .int .i64 s.ch, .int .i64 s.pt] 92)) (fun _ _ => 0)
    case atStart => exact ⟨rfl, rfl⟩
    case round =>
      obtain ⟨rfl, rfl⟩ := hrel
      go_wp2
      go_ret
      exact ⟨rfl, HB0'.out _ 0⟩
  case inl =>
    go_enter Tryz.func99, Tryz.ntmps99
    go_wp2
    go_loopw [3] (fun i wr => ∃ k d : Nat, k ≤ m ∧ i = .int .i64 k ∧ wr = (w.alloc (.cells #[.int .i64 s.kd, .int .i64 s.key, .int .i64 s.val, .int .i64 s.step, .int .i64 s.pg, .slice ak s.keys.length ck, .slice av s.vals.length cv, .slice ab s.bel.length cb, .slice ap s.pts.length cp, .string s.sw, .int .i64 s.ver, .slice ax m cx, .slice ay m cy, .int .i64 s.laid, .int .i64 s.lv, .int .i64 s.low, .int .i64 s.ch, .int .i64 s.pt] 92)).drewN d) (fun i _ => m - (intOf i).toNat)
    case atStart => exact ⟨0, 0, Nat.zero_le _, rfl, rfl⟩
    case round =>
      obtain ⟨k, d, hk, rfl, rfl⟩ := hrel
      by_cases hlt : k < m
      · obtain ⟨b1, o1, rfl, -, x1⟩ := HR.out.elem k hlt
        obtain ⟨b2, o2, rfl, -, x2⟩ := HR2.out.elem k hlt
        have y1 : ∀ p, (w.alloc p).cell? ⟨b1, o1 + k, none⟩ = some (.int .i64 (s.sp[k]?.getD 0)) := fun p => x1 _ ((Below.refl _ _).alloc (Nat.le_refl _) p)
        have y2 : ∀ p, (w.alloc p).cell? ⟨b2, o2 + k, none⟩ = some (.int .i64 (s.sv[k]?.getD 0)) := fun p => x2 _ ((Below.refl _ _).alloc (Nat.le_refl _) p)
        have hkk : (0 : Int) ≤ (k : Int) := by omega
        have hkl : (k : Int) < (m : Int) := by omega
        have h1 := HS.out _ (mem_at (xs := s.sp) (k := k) (by rw [HM.out]; exact hlt))
        have h2 := HV.out _ (mem_at (xs := s.sv) (k := k) (by rw [HM2.out]; exact hlt))
        obtain ⟨a, ha⟩ : ∃ a, s.sp[k]?.getD 0 = a := ⟨_, rfl⟩
        obtain ⟨b, hb⟩ : ∃ a, s.sv[k]?.getD 0 = a := ⟨_, rfl⟩
        rw [ha] at y1 h1
        rw [hb] at y2 h2
        have hc : (decide (1 ≤ a) && decide (a < 64)) = true := by simp; omega
        have HC := hideIt hc
        have hbn : (b == 9223372036854775807) = false := by have := h2.2; simp; omega
        have HCH := hideIt (fun W => isChild_any a W)
        clear x1 x2 ha hb hc h1 h2
        go_wp2_with (refine (HCH.out _).mono ?_; rintro e w1 ⟨rfl, rfl⟩; rw [HC.out])
        go_roundw
        case rel => exact ⟨k + 1, _, by omega, by go_num, rfl⟩
        case measure => simp [intOf]; omega
      · go_wp2
        go_ret
        exact ⟨rfl, HB0'.out _ _⟩
end Go.Proofs.YtajobgmnmbnhiaaGreatDoor.Sap
