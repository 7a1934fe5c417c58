/- WHAT IS PROVED HERE: tree.rightSeen answers true of what a Scan may have seen; tree.readFrame gives back the state whose frame it is; tree.Next asks for Read of its page. Conditions: the state is one that an operation may be in (StOk). -/
import Derived.Test.YtajmiokllajcpaaDoorT5
namespace Go.Proofs.YtajmiokllajcpaaDoor.Sap
open Go.RowKit

/-- A state that an operation may be in. -/
structure StOk (s : St) : Prop where
  op : opR s.kd s.key s.val = true
  val : Fr s.val
  step : Fr s.step
  pg : 0 ≤ s.pg ∧ s.pg ≤ 63
  keys : ∀ x ∈ s.keys, Fr x
  vals : ∀ x ∈ s.vals, Fr x
  pts : ∀ x ∈ s.pts, Fr x
  kl : s.keys.length = s.vals.length
  kl12 : s.keys.length < 12
  bl : s.bel.length = s.pts.length
  bl64 : s.bel.length ≤ 64
  bel : keysOk (s.val + 1) (s.key + 1) s.bel = true

theorem StOk.rng {s : St} (h : StOk s) : 1 ≤ s.kd ∧ s.kd ≤ 4 ∧ 1 ≤ s.key ∧ s.key ≤ 9999 := by
  have := h.op
  simp only [opR, Bool.and_eq_true, Bool.or_eq_true, decide_eq_true_eq] at this
  omega

theorem keysOk_all (hi l : Int) (ks : List Int) (h : keysOk hi l ks = true) : ∀ k ∈ ks, l ≤ k ∧ k < hi := by
  induction ks generalizing l with
  | nil => intro k hk; cases hk
  | cons x r ih =>
    simp only [keysOk, Bool.and_eq_true, decide_eq_true_eq] at h
    intro k hk
    rcases List.mem_cons.1 hk with rfl | hk
    · omega
    · have := ih (x + 1) h.2.2 k hk; omega

theorem StOk.belFr {s : St} (h : StOk s) : ∀ x ∈ s.bel, Fr x := by
  intro x hx
  have h1 := keysOk_all _ _ _ h.bel x hx
  have h2 := h.rng
  have h3 := h.val
  unfold Fr at h3 ⊢
  omega
theorem Fr.i {x : Int} (h : Fr x) : I64 x := by unfold Fr at h; unfold I64; omega
theorem StOk.i {s : St} (h : StOk s) : StI s := by
  have h2 := h.rng
  have h3 := h.pg
  exact ⟨by unfold I64; omega, by unfold I64; omega, h.val.i, h.step.i, by unfold I64; omega, fun x hx => (h.keys x hx).i, fun x hx => (h.vals x hx).i, fun x hx => (h.belFr x hx).i, fun x hx => (h.pts x hx).i, by have := h.kl12; omega, by have := h.kl12; have := h.kl; omega, h.bl64, by have := h.bl64; have := h.bl; omega⟩

/-- The least that the k-th of a rising list may be. -/
def lo (l : Int) (ks : List Int) (k : Nat) : Int := match k with | 0 => l | j + 1 => ks[j]?.getD 0 + 1
theorem keysOk_at (hi l : Int) (ks : List Int) (h : keysOk hi l ks = true) (k : Nat) (hk : k < ks.length) : lo l ks k ≤ ks[k]?.getD 0 ∧ ks[k]?.getD 0 < hi := by
  induction ks generalizing l k with
  | nil => simp at hk
  | cons x r ih =>
    simp only [keysOk, Bool.and_eq_true, decide_eq_true_eq] at h
    cases k with
    | zero => simp [lo]; omega
    | succ j =>
      have := ih (x + 1) h.2.2 j (by simpa using hk)
      cases j with
      | zero => simpa [lo] using this
      | succ i => simpa [lo] using this

set_option maxRecDepth 100000 in
set_option maxHeartbeats 1600000 in
theorem rightSeen_yes (s : St) (kv vv bv pv : Value) (w : World) (hv : StV w s kv vv bv pv) (hok : StOk s) :
    Calls Tryd.prog 63 #[.agg #[.int .i64 s.kd, .int .i64 s.key, .int .i64 s.val, .int .i64 s.step, .int .i64 s.pg, kv, vv, bv, pv]] w fun e w' => e = .returned (.bool true) ∧ Below w.heap.size w w' := by
  obtain ⟨ak, ck, rfl⟩ := hv.keys.len
  obtain ⟨av, cv, rfl⟩ := hv.vals.len
  obtain ⟨ab, cb, rfl⟩ := hv.bel.len
  obtain ⟨ap, cp, rfl⟩ := hv.pts.len
  have HR := hideIt hv.bel
  have hkl := hok.kl
  have hk12 : (s.keys.length : Int) < 12 := by have := hok.kl12; omega
  have hbl := hok.bl
  have hb64 := hok.bl64
  have HB := hideIt hok.bel
  have hrng := hok.rng
  have hkey : s.key ≤ 9999 := by omega
  have hkey1 : 1 ≤ s.key := by omega
  have hval : s.val ≤ 100000000000000000 := hok.val.2
  obtain ⟨m, hm⟩ : ∃ m, s.bel.length = m := ⟨_, rfl⟩
  obtain ⟨q, hq⟩ : ∃ q, s.keys.length = q := ⟨_, rfl⟩
  rw [← hkl, ← hbl, hm, hq]
  rw [hq] at hk12
  rw [hm] at hb64 HR
  have HM := hideIt hm
  clear hkl hbl hok hv hm hq hrng
  go_enter Tryd.func63, Tryd.ntmps63
  go_wp2
  go_loopw [3, 4] (fun t i wr => ∃ k d : Nat, k ≤ m ∧ i = .int .i64 k ∧ t = .int .i64 (lo (s.key + 1) s.bel k) ∧ wr = (w.alloc (.cells #[.int .i64 s.kd, .int .i64 s.key, .int .i64 s.val, .int .i64 s.step, .int .i64 s.pg, .slice ak q ck, .slice av q cv, .slice ab m cb, .slice ap m cp] 82)).drewN d) (fun _ i _ => m - (intOf i).toNat)
  case atStart => exact ⟨0, 0, Nat.zero_le _, rfl, rfl, rfl⟩
  case round =>
    obtain ⟨k, d, hk, rfl, rfl, rfl⟩ := hrel
    by_cases hlt : k < m
    · obtain ⟨b1, o1, rfl, -, x1⟩ := HR.out.elem k hlt
      have y1 : ∀ p, (w.alloc p).cell? ⟨b1, o1 + k, none⟩ = some (.int .i64 (s.bel[k]?.getD 0)) := fun p => x1 _ ((Below.refl _ _).alloc (Nat.le_refl _) p)
      have hkk : (0 : Int) ≤ (k : Int) := by omega
      have hkl : (k : Int) < (m : Int) := by omega
      have hat := keysOk_at _ _ _ HB.out k (by rw [HM.out]; exact hlt)
      obtain ⟨bk, hbk⟩ : ∃ bk, s.bel[k]?.getD 0 = bk := ⟨_, rfl⟩
      obtain ⟨l, hl⟩ : ∃ l, lo (s.key + 1) s.bel k = l := ⟨_, rfl⟩
      have HL : Hid (lo (s.key + 1) s.bel (k + 1) = bk + 1) := by show s.bel[k]?.getD 0 + 1 = bk + 1; rw [hbk]
      rw [hbk] at y1 hat
      rw [hl] at hat ⊢
      have h1 : decide (bk < l) = false := by rw [decide_eq_false_iff_not]; omega
      have h2 : decide (s.val < bk) = false := by rw [decide_eq_false_iff_not]; omega
      have h3 : bk ≤ 100000000000000000 := by omega
      have h4 : -100 ≤ bk := by
        have := keysOk_all _ _ _ HB.out bk (by rw [← hbk]; exact mem_at (by rw [HM.out]; exact hlt))
        omega
      clear x1 hat hbk hl
      go_wp2
      go_quiet (fail)
      go_wp2
      go_roundw
      case rel => exact ⟨k + 1, _, by omega, by go_num, by rw [HL.out], rfl⟩
      case measure => simp [intOf]; omega
    · go_wp2
      go_ret
      refine ⟨rfl, ?_⟩
      have hb := (Below.refl w.heap.size w).alloc (Nat.le_refl _) (.cells #[.int .i64 s.kd, .int .i64 s.key, .int .i64 s.val, .int .i64 s.step, .int .i64 s.pg, .slice ak q ck, .slice av q cv, .slice ab m cb, .slice ap m cp] 82)
      exact ⟨hb.os, hb.tape, hb.output, hb.size, hb.block⟩
end Go.Proofs.YtajmiokllajcpaaDoor.Sap
