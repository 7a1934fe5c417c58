/- WHAT IS PROVED HERE: tree.rightSpares answers true of the pages that an operation may have made. Conditions: the state is one that an operation may be in (StOk). -/
import Derived.Test.YtajobgmnmbnhiaaDoorXT4T6
namespace Go.Proofs.YtajobgmnmbnhiaaDoor.Sap
open Go.RowKit

set_option maxRecDepth 100000 in
set_option maxHeartbeats 1600000 in
theorem rightSpares_yes (s : St) (kv vv bv pv xv yv : Value) (w : World) (hv : StV w s kv vv bv pv xv yv) (hok : StOk s) :
    Calls Tryd.prog 98 #[.agg #[.int .i64 s.kd, .int .i64 s.key, .int .i64 s.val, .int .i64 s.step, .int .i64 s.pg, kv, vv, bv, pv, .string s.sw, .int .i64 s.ver, xv, yv, .int .i64 s.laid, .int .i64 s.lv, .int .i64 s.low, .int .i64 s.ch, .int .i64 s.pt]] w fun e w' => e = .returned (.bool true) ∧ Below w.heap.size w w' := by
  obtain ⟨ak, ck, rfl⟩ := hv.keys.len
  obtain ⟨av, cv, rfl⟩ := hv.vals.len
  obtain ⟨ab, cb, rfl⟩ := hv.bel.len
  obtain ⟨ap, cp, rfl⟩ := hv.pts.len
  obtain ⟨ax, cx, rfl⟩ := hv.sp.len
  obtain ⟨ay, cy, rfl⟩ := hv.sv.len
  have HB0 : Hid (∀ o, Below w.heap.size w (w.alloc o)) := fun o => (Below.refl _ _).alloc (Nat.le_refl _) o
  have HR := hideIt hv.sp
  have HR2 := hideIt hv.sv
  have HS := hideIt hok.sp
  have HV := hideIt hok.sv
  have hk := hok.spk
  have hl2 := hok.sp2
  have hspl := hok.spl
  have hlaid : s.laid ≤ (s.sp.length : Int) := hok.laidL
  obtain ⟨m, hm⟩ : ∃ m, s.sp.length = m := ⟨_, rfl⟩
  have HM := hideIt hm
  have HM2 : Hid (s.sv.length = m) := by unfold Hid; omega
  rw [← hspl, hm] at HR2 ⊢
  rw [hm] at HR hl2 hlaid
  have hkz : s.kd = 2 ∨ m = 0 := by
    rcases hk with h | h
    · exact Or.inl h
    · right; rw [← hm, h]; rfl
  have b3 : decide ((2 : Int) < (m : Int)) = false := by rw [decide_eq_false_iff_not]; omega
  have hl2i : (m : Int) ≤ 2 := by omega
  have b2 : decide ((m : Int) < s.laid) = false := by rw [decide_eq_false_iff_not]; omega
  have HB0' : Hid (∀ o d, Below w.heap.size w ((w.alloc o).drewN d)) := fun o d => by have hb := (Below.refl w.heap.size w).alloc (Nat.le_refl _) o; exact ⟨hb.os, hb.tape, hb.output, hb.size, hb.block⟩
  clear hspl hm hv hok hk HB0
  have hcs : (s.kd != 2) = false ∨ ((s.kd != 2) = true ∧ m = 0) := by
    by_cases h2 : s.kd = 2
    · left; rw [h2]; rfl
    · right
      rcases hkz with h | h
      · exact absurd h h2
      · exact ⟨by simp [h2], h⟩
  clear hkz
  rcases hcs with hkb | ⟨hkb, rfl⟩
  case inr =>
    go_enter Tryd.func98, Tryd.ntmps98
    have hlz : decide ((0 : Int) < s.laid) = false := b2
    have hlz2 : s.laid ≤ 0 := hlaid
    rw [show ((0 : Nat) : Int) = 0 from rfl] at *
    go_wp2
    go_loopw [3] (fun i wr => i = .int .i64 0 ∧ wr = w.alloc (.cells #[.int .i64 s.kd, .int .i64 s.key, .int .i64 s.val, .int .i64 s.step, .int .i64 s.pg, .slice ak s.keys.length ck, .slice av s.vals.length cv, .slice ab s.bel.length cb, .slice ap s.pts.length cp, .string s.sw, .int .i64 s.ver, .slice ax 0 cx, .slice ay 0 cy, .int .i64 s.laid, .int .i64 s.lv, .int .i64 s.low, .int .i64 s.ch, .int .i64 s.pt] 98)) (fun _ _ => 0)
    case atStart => exact ⟨rfl, rfl⟩
    case round =>
      obtain ⟨rfl, rfl⟩ := hrel
      go_wp2
      go_ret
      exact ⟨rfl, HB0'.out _ 0⟩
  case inl =>
    go_enter Tryd.func98, Tryd.ntmps98
    go_wp2
    go_loopw [3] (fun i wr => ∃ k d : Nat, k ≤ m ∧ i = .int .i64 k ∧ wr = (w.alloc (.cells #[.int .i64 s.kd, .int .i64 s.key, .int .i64 s.val, .int .i64 s.step, .int .i64 s.pg, .slice ak s.keys.length ck, .slice av s.vals.length cv, .slice ab s.bel.length cb, .slice ap s.pts.length cp, .string s.sw, .int .i64 s.ver, .slice ax m cx, .slice ay m cy, .int .i64 s.laid, .int .i64 s.lv, .int .i64 s.low, .int .i64 s.ch, .int .i64 s.pt] 98)).drewN d) (fun i _ => m - (intOf i).toNat)
    case atStart => exact ⟨0, 0, Nat.zero_le _, rfl, rfl⟩
    case round =>
      obtain ⟨k, d, hk, rfl, rfl⟩ := hrel
      by_cases hlt : k < m
      · obtain ⟨b1, o1, rfl, -, x1⟩ := HR.out.elem k hlt
        obtain ⟨b2, o2, rfl, -, x2⟩ := HR2.out.elem k hlt
        have y1 : ∀ p, (w.alloc p).cell? ⟨b1, o1 + k, none⟩ = some (.int .i64 (s.sp[k]?.getD 0)) := fun p => x1 _ ((Below.refl _ _).alloc (Nat.le_refl _) p)
        have y2 : ∀ p, (w.alloc p).cell? ⟨b2, o2 + k, none⟩ = some (.int .i64 (s.sv[k]?.getD 0)) := fun p => x2 _ ((Below.refl _ _).alloc (Nat.le_refl _) p)
        have hkk : (0 : Int) ≤ (k : Int) := by omega
        have hkl : (k : Int) < (m : Int) := by omega
        have h1 := HS.out _ (mem_at (xs := s.sp) (k := k) (by rw [HM.out]; exact hlt))
        have h2 := HV.out _ (mem_at (xs := s.sv) (k := k) (by rw [HM2.out]; exact hlt))
        obtain ⟨a, ha⟩ : ∃ a, s.sp[k]?.getD 0 = a := ⟨_, rfl⟩
        obtain ⟨b, hb⟩ : ∃ a, s.sv[k]?.getD 0 = a := ⟨_, rfl⟩
        rw [ha] at y1 h1
        rw [hb] at y2 h2
        have hc : (decide (1 ≤ a) && decide (a < 64)) = true := by simp; omega
        have HC := hideIt hc
        have hbn : (b == 9223372036854775807) = false := by have := h2.2; simp; omega
        have HCH := hideIt (fun W => isChild_any a W)
        clear x1 x2 ha hb hc h1 h2
        go_wp2_with (refine (HCH.out _).mono ?_; rintro e w1 ⟨rfl, rfl⟩; rw [HC.out])
        go_roundw
        case rel => exact ⟨k + 1, _, by omega, by go_num, rfl⟩
        case measure => simp [intOf]; omega
      · go_wp2
        go_ret
        exact ⟨rfl, HB0'.out _ _⟩
end Go.Proofs.YtajobgmnmbnhiaaDoor.Sap
