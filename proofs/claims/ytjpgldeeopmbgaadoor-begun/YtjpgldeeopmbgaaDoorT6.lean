/- WHAT IS PROVED HERE: tree.rightSeen answers true of what a Scan may have seen; tree.readFrame gives back the state whose frame it is; tree.Next asks for Read of its page. Conditions: the state is one that an operation may be in (StOk). -/
import Derived.Test.YtjpgldeeopmbgaaDoorT5
import Derived.Test.YtjpgldeeopmbgaaDoorW11
namespace Go.Proofs.YtjpgldeeopmbgaaDoor.Sap
open Go.RowKit

/-- A state that an operation may be in. -/
structure StOk (s : St) : Prop where
  op : opR s.kd s.key s.val = true
  val : Fr s.val
  step : Fr s.step
  pg : 0 ≤ s.pg ∧ s.pg ≤ 63
  keys : ∀ x ∈ s.keys, Fr x
  vals : ∀ x ∈ s.vals, Fr x
  pts : ∀ x ∈ s.pts, Fr x
  kl : s.keys.length = s.vals.length
  kl12 : s.keys.length < 12
  bl : s.bel.length = s.pts.length
  bl64 : s.bel.length ≤ 64
  bel : keysOk (s.val + 1) (s.key + 1) s.bel = true
  ver : Fr s.ver
  va : Fr s.va
  va4 : s.va ≤ 9999
  sw : (s.sw = ⟨#[]⟩ ∧ s.ver = 0 ∧ s.fnd = false ∧ s.va = 0) ∨ ((s.kd = 2 ∨ s.kd = 3) ∧ (s.fnd = false → s.va = 0) ∧ ∃ n, Unp s.sw.data.toList n ∧ n.lv = 0)
  seen : s.kd = 4 ∨ (s.keys = [] ∧ s.vals = [] ∧ s.bel = [] ∧ s.pts = [])

theorem StOk.rng {s : St} (h : StOk s) : 1 ≤ s.kd ∧ s.kd ≤ 4 ∧ 1 ≤ s.key ∧ s.key ≤ 9999 := by
  have := h.op
  simp only [opR, Bool.and_eq_true, Bool.or_eq_true, decide_eq_true_eq] at this
  omega

theorem StOk.belFr {s : St} (h : StOk s) : ∀ x ∈ s.bel, Fr x := by
  intro x hx
  have h1 := keysOk_all _ _ _ h.bel x hx
  have h2 := h.rng
  have h3 := h.val
  unfold Fr at h3 ⊢
  omega
theorem unp_size {t : ByteArray} (h : ∃ n, Unp t.data.toList n) : 1 ≤ t.size ∧ t.size ≤ 47 := by
  obtain ⟨n, hn⟩ := h
  have h1 := len_packT n hn.1
  rw [hn.2, ba_size] at h1
  exact ⟨by have := h1.1; omega, h1.2⟩
theorem nonempty_of {t : ByteArray} (h : t ≠ ⟨#[]⟩) : t.toList.isEmpty = false := by
  rw [ByteArray.toList_eq]
  cases hl : t.data.toList with
  | nil => exact absurd (ba_ext (b := ⟨#[]⟩) (by rw [hl])) h
  | cons _ _ => rfl
theorem StOk.swL {s : St} (h : StOk s) : s.sw.size ≤ 47 := by
  rcases h.sw with ⟨e, -⟩ | ⟨-, -, n, hn, -⟩
  · rw [e]; decide
  · exact (unp_size ⟨n, hn⟩).2
theorem StOk.i {s : St} (h : StOk s) : StI s := by
  have h2 := h.rng
  have h3 := h.pg
  have h4 := h.kl12
  have h5 := h.kl
  have h6 := h.bl
  have h7 := h.bl64
  exact ⟨by unfold I64; omega, by unfold I64; omega, h.val.i, h.step.i, by unfold I64; omega, h.ver.i, h.va.i, fun x hx => (h.keys x hx).i, fun x hx => (h.vals x hx).i, fun x hx => (h.belFr x hx).i, fun x hx => (h.pts x hx).i, by omega, by omega, by omega, by omega, h.swL⟩

set_option maxRecDepth 100000 in
set_option maxHeartbeats 1600000 in
theorem rightSeen_yes (s : St) (kv vv bv pv : Value) (w : World) (hv : StV w s kv vv bv pv) (hok : StOk s) :
    Calls Tryd.prog 86 #[.agg #[.int .i64 s.kd, .int .i64 s.key, .int .i64 s.val, .int .i64 s.step, .int .i64 s.pg, kv, vv, bv, pv, .string s.sw, .int .i64 s.ver, .bool s.fnd, .int .i64 s.va]] w fun e w' => e = .returned (.bool true) ∧ Below w.heap.size w w' := by
  by_cases hk4 : s.kd = 4
  case neg =>
    obtain ⟨ak, ck, rfl⟩ := hv.keys.len
    obtain ⟨av, cv, rfl⟩ := hv.vals.len
    obtain ⟨ab, cb, rfl⟩ := hv.bel.len
    obtain ⟨ap, cp, rfl⟩ := hv.pts.len
    rcases hok.seen with h | ⟨h1, h2, h3, h4⟩
    · exact absurd h hk4
    rw [h1, h2, h3, h4]
    have hkb : (s.kd == 4) = false := by simp [hk4]
    have hkb2 : (s.kd != 4) = true := by simp [hk4]
    have HB0 : Hid (∀ o, Below w.heap.size w (w.alloc o)) := fun o => (Below.refl _ _).alloc (Nat.le_refl _) o
    clear hv hok h1 h2 h3 h4
    go_enter Tryd.func86, Tryd.ntmps86
    go_wp2
    go_ret
    exact ⟨rfl, HB0.out _⟩
  obtain ⟨ak, ck, rfl⟩ := hv.keys.len
  obtain ⟨av, cv, rfl⟩ := hv.vals.len
  obtain ⟨ab, cb, rfl⟩ := hv.bel.len
  obtain ⟨ap, cp, rfl⟩ := hv.pts.len
  have HR := hideIt hv.bel
  have hkl := hok.kl
  have hk12 : (s.keys.length : Int) < 12 := by have := hok.kl12; omega
  have hbl := hok.bl
  have hb64 := hok.bl64
  have HB := hideIt hok.bel
  have hrng := hok.rng
  have hkey : s.key ≤ 9999 := by omega
  have hkey1 : 1 ≤ s.key := by omega
  have hval : s.val ≤ 100000000000000000 := hok.val.2
  obtain ⟨m, hm⟩ : ∃ m, s.bel.length = m := ⟨_, rfl⟩
  obtain ⟨q, hq⟩ : ∃ q, s.keys.length = q := ⟨_, rfl⟩
  rw [← hkl, ← hbl, hm, hq]
  rw [hq] at hk12
  rw [hm] at hb64 HR
  have HM := hideIt hm
  clear hkl hbl hok hv hm hq hrng
  rw [hk4]
  go_enter Tryd.func86, Tryd.ntmps86
  go_wp2
  go_loopw [3, 4] (fun t i wr => ∃ k d : Nat, k ≤ m ∧ i = .int .i64 k ∧ t = .int .i64 (lo (s.key + 1) s.bel k) ∧ wr = (w.alloc (.cells #[.int .i64 4, .int .i64 s.key, .int .i64 s.val, .int .i64 s.step, .int .i64 s.pg, .slice ak q ck, .slice av q cv, .slice ab m cb, .slice ap m cp, .string s.sw, .int .i64 s.ver, .bool s.fnd, .int .i64 s.va] 104)).drewN d) (fun _ i _ => m - (intOf i).toNat)
  case atStart => exact ⟨0, 0, Nat.zero_le _, rfl, rfl, rfl⟩
  case round =>
    obtain ⟨k, d, hk, rfl, rfl, rfl⟩ := hrel
    by_cases hlt : k < m
    · obtain ⟨b1, o1, rfl, -, x1⟩ := HR.out.elem k hlt
      have y1 : ∀ p, (w.alloc p).cell? ⟨b1, o1 + k, none⟩ = some (.int .i64 (s.bel[k]?.getD 0)) := fun p => x1 _ ((Below.refl _ _).alloc (Nat.le_refl _) p)
      have hkk : (0 : Int) ≤ (k : Int) := by omega
      have hkl : (k : Int) < (m : Int) := by omega
      have hat := keysOk_at _ _ _ HB.out k (by rw [HM.out]; exact hlt)
      obtain ⟨bk, hbk⟩ : ∃ bk, s.bel[k]?.getD 0 = bk := ⟨_, rfl⟩
      obtain ⟨l, hl⟩ : ∃ l, lo (s.key + 1) s.bel k = l := ⟨_, rfl⟩
      have HL : Hid (lo (s.key + 1) s.bel (k + 1) = bk + 1) := by show s.bel[k]?.getD 0 + 1 = bk + 1; rw [hbk]
      rw [hbk] at y1 hat
      rw [hl] at hat ⊢
      have h1 : decide (bk < l) = false := by rw [decide_eq_false_iff_not]; omega
      have h2 : decide (s.val < bk) = false := by rw [decide_eq_false_iff_not]; omega
      have h3 : bk ≤ 100000000000000000 := by omega
      have h4 : -100 ≤ bk := by
        have := keysOk_all _ _ _ HB.out bk (by rw [← hbk]; exact mem_at (by rw [HM.out]; exact hlt))
        omega
      clear x1 hat hbk hl
      go_wp2
      go_quiet (fail)
      go_wp2
      go_roundw
      case rel => exact ⟨k + 1, _, by omega, by go_num, by rw [HL.out], rfl⟩
      case measure => simp [intOf]; omega
    · go_wp2
      go_ret
      refine ⟨rfl, ?_⟩
      have hb := (Below.refl w.heap.size w).alloc (Nat.le_refl _) (.cells #[.int .i64 4, .int .i64 s.key, .int .i64 s.val, .int .i64 s.step, .int .i64 s.pg, .slice ak q ck, .slice av q cv, .slice ab m cb, .slice ap m cp, .string s.sw, .int .i64 s.ver, .bool s.fnd, .int .i64 s.va] 104)
      exact ⟨hb.os, hb.tape, hb.output, hb.size, hb.block⟩

set_option maxRecDepth 100000 in
set_option maxHeartbeats 1600000 in
theorem rightSwap_yes (s : St) (kv vv bv pv : Value) (w : World) (hv : StV w s kv vv bv pv) (hok : StOk s) :
    Calls Tryd.prog 87 #[.agg #[.int .i64 s.kd, .int .i64 s.key, .int .i64 s.val, .int .i64 s.step, .int .i64 s.pg, kv, vv, bv, pv, .string s.sw, .int .i64 s.ver, .bool s.fnd, .int .i64 s.va]] w fun e w' => e = .returned (.bool true) ∧ Below w.heap.size w w' := by
  obtain ⟨ak, ck, rfl⟩ := hv.keys.len
  obtain ⟨av, cv, rfl⟩ := hv.vals.len
  obtain ⟨ab, cb, rfl⟩ := hv.bel.len
  obtain ⟨ap, cp, rfl⟩ := hv.pts.len
  have HB0 : Hid (∀ o, Below w.heap.size w (w.alloc o)) := fun o => (Below.refl _ _).alloc (Nat.le_refl _) o
  have hva := hok.va4
  rcases hok.sw with ⟨h1, h2, h3, h4⟩ | ⟨h1, h2, n, hn, hlv⟩
  · rw [h1, h2, h3, h4]
    clear hok hv hva h1 h2 h3 h4
    go_enter Tryd.func87, Tryd.ntmps87
    go_wp2
    go_ret
    exact ⟨rfl, HB0.out _⟩
  · have hsz := unp_size ⟨n, hn⟩
    have hne : s.sw ≠ ⟨#[]⟩ := by
      intro e
      rw [e] at hsz
      exact absurd hsz.1 (by decide)
    have hneb : s.sw.toList.isEmpty = false := nonempty_of hne
    have hk1 : (s.kd != 2 && s.kd != 3) = false := by rcases h1 with h | h <;> rw [h] <;> rfl
    have hv1 : decide (9999 < s.va) = false := by rw [decide_eq_false_iff_not]; omega
    have HN := hideIt hn
    have HLV := hideIt hlv
    clear hok hv hn hne hlv
    rcases h1 with hk | hk
    all_goals
      rw [hk]
      cases hf : s.fnd
      all_goals
        go_enter Tryd.func87, Tryd.ntmps87
        go_wp2_with fail
        refine (unpack_any s.sw _ (by omega)).mono ?_
        rintro e w2 ⟨hR, hb⟩
        rcases hR with ⟨n', kv', vv', hn', hO, rfl⟩ | ⟨hno, -⟩
        case inr => exact absurd HN.out (hno n)
        obtain rfl : n' = n := hn'.uniq HN.out
        obtain ⟨ka, kc, rfl⟩ := own_form hO.1
        obtain ⟨va', vc, rfl⟩ := own_form hO.2.1
        have HB := hideIt (step (HB0.out _) hb)
        have HB2 := hideIt (step HB.out ((Below.refl w2.heap.size w2).alloc (Nat.le_refl _) (.cells #[.int .i64 0, .int .i64 n'.lk, .int .i64 n'.hi, .slice ka n'.ks.length kc, .slice va' n'.vs.length vc] 24)))
        rw [HLV.out]
        clear hO hb hn'
        go_wp2
        go_ret
        exact ⟨rfl, HB2.out⟩
end Go.Proofs.YtjpgldeeopmbgaaDoor.Sap
