/- WHAT IS PROVED HERE: what tree.lookUp answers. Conditions: the leaf's two lists are of one length, at most 6. -/
import Derived.Test.YtjpgldeeopmbgaaDoorL1
namespace Go.Proofs.YtjpgldeeopmbgaaDoor.Sap
open Go.RowKit

/-- What the first k entries have for a key. -/
def fndB (ks : List Int) (key : Int) : Nat → Bool
  | 0 => false
  | k + 1 => if ks[k]?.getD 0 = key then true else fndB ks key k
def fndV (ks vs : List Int) (key : Int) : Nat → Int
  | 0 => 0
  | k + 1 => if ks[k]?.getD 0 = key then vs[k]?.getD 0 else fndV ks vs key k
def ansG (f : Bool) (v p : Int) : Array Value := #[.int .i64 0, .bool f, .int .i64 v, .int .i64 p, .slice none 0 0, .slice none 0 0, .slice none 0 0]

set_option maxRecDepth 100000 in
set_option maxHeartbeats 3200000 in
theorem lookUp_any (s : St) (n : Nd) (kv vv bv pv ka va : Value) (w : World) (hv : StV w s kv vv bv pv) (hk : Rd w ka n.ks) (hva : Rd w va n.vs) (hl : n.ks.length = n.vs.length) (h6 : n.ks.length ≤ 6) :
    Calls Tryd.prog 102 #[.agg #[.int .i64 s.kd, .int .i64 s.key, .int .i64 s.val, .int .i64 s.step, .int .i64 s.pg, kv, vv, bv, pv, .string s.sw, .int .i64 s.ver, .bool s.fnd, .int .i64 s.va], .agg #[.int .i64 n.lv, .int .i64 n.lk, .int .i64 n.hi, ka, va]] w fun e w' => e = .returned (.agg (ansG (fndB n.ks s.key n.ks.length) (fndV n.ks n.vs s.key n.ks.length) s.step)) ∧ Below w.heap.size w w' := by
  obtain ⟨ak, ck, rfl⟩ := hv.keys.len
  obtain ⟨av, cv, rfl⟩ := hv.vals.len
  obtain ⟨ab, cb, rfl⟩ := hv.bel.len
  obtain ⟨ap, cp, rfl⟩ := hv.pts.len
  have HK := hideIt hk
  have HV := hideIt hva
  obtain ⟨nk, nc, rfl⟩ := hk.len
  obtain ⟨nva, nvc, rfl⟩ := hva.len
  obtain ⟨m, hm⟩ : ∃ m, n.ks.length = m := ⟨_, rfl⟩
  rw [← hl] at HV ⊢
  rw [hm] at HK HV h6 ⊢
  clear hv hk hva hl hm
  have A0 := hideIt (((((M.start w).alloc #[.int .i64 s.kd, .int .i64 s.key, .int .i64 s.val, .int .i64 s.step, .int .i64 s.pg, .slice ak s.keys.length ck, .slice av s.vals.length cv, .slice ab s.bel.length cb, .slice ap s.pts.length cp, .string s.sw, .int .i64 s.ver, .bool s.fnd, .int .i64 s.va] 104).alloc #[.int .i64 n.lv, .int .i64 n.lk, .int .i64 n.hi, .slice nk m nc, .slice nva m nvc] 24).alloc (ansG false 0 0) 66).alloc (ansG false 0 s.step) 66)
  rw [alloc_size, alloc_size, alloc_size] at A0
  go_enter Tryd.func102, Tryd.ntmps102
  go_wp2
  go_loopw [6] (fun i wr => ∃ k : Nat, k ≤ m ∧ i = .int .i64 k ∧ Hid (M w w.heap.size wr [.blk (w.heap.size + 1 + 1 + 1) (ansG (fndB n.ks s.key k) (fndV n.ks n.vs s.key k) s.step) 66, .blk (w.heap.size + 1 + 1) (ansG false 0 0) 66, .blk (w.heap.size + 1) #[.int .i64 n.lv, .int .i64 n.lk, .int .i64 n.hi, .slice nk m nc, .slice nva m nvc] 24, .blk w.heap.size #[.int .i64 s.kd, .int .i64 s.key, .int .i64 s.val, .int .i64 s.step, .int .i64 s.pg, .slice ak s.keys.length ck, .slice av s.vals.length cv, .slice ab s.bel.length cb, .slice ap s.pts.length cp, .string s.sw, .int .i64 s.ver, .bool s.fnd, .int .i64 s.va] 104])) (fun i _ => m - (intOf i).toNat)
  case atStart => exact ⟨0, Nat.zero_le _, rfl, A0.out⟩
  case round =>
    clear A0
    obtain ⟨k, hk, rfl, hM⟩ := hrel
    have c1 := hM.out.cell (i := 3) rfl 1 (.int .i64 s.key) rfl
    have d3 := hM.out.cell (i := 2) rfl 3 (.slice nk m nc) rfl
    have d4 := hM.out.cell (i := 2) rfl 4 (.slice nva m nvc) rfl
    have a0 := hM.out.cell (i := 0) rfl 0 (.int .i64 0) rfl
    have a1 := hM.out.cell (i := 0) rfl 1 (.bool (fndB n.ks s.key k)) rfl
    have a2 := hM.out.cell (i := 0) rfl 2 (.int .i64 (fndV n.ks n.vs s.key k)) rfl
    have a3 := hM.out.cell (i := 0) rfl 3 (.int .i64 s.step) rfl
    have a4 := hM.out.cell (i := 0) rfl 4 (.slice none 0 0) rfl
    have a5 := hM.out.cell (i := 0) rfl 5 (.slice none 0 0) rfl
    have a6 := hM.out.cell (i := 0) rfl 6 (.slice none 0 0) rfl
    have f1 := hM.out.free (i := 0) rfl 1
    have f2 := hM.out.free (i := 0) rfl 2
    by_cases hlt : k < m
    · obtain ⟨b1, o1, rfl, -, x1⟩ := HK.out.elem k hlt
      obtain ⟨b2, o2, rfl, -, x2⟩ := HV.out.elem k hlt
      have y1 := x1 _ hM.out.bl
      have y2 := x2 _ hM.out.bl
      have HF : Hid (fndB n.ks s.key (k + 1) = (if n.ks[k]?.getD 0 = s.key then true else fndB n.ks s.key k) ∧ fndV n.ks n.vs s.key (k + 1) = if n.ks[k]?.getD 0 = s.key then n.vs[k]?.getD 0 else fndV n.ks n.vs s.key k) := ⟨rfl, rfl⟩
      obtain ⟨a, ha⟩ : ∃ y, n.ks[k]?.getD 0 = y := ⟨_, rfl⟩
      obtain ⟨b, hb⟩ : ∃ y, n.vs[k]?.getD 0 = y := ⟨_, rfl⟩
      rw [ha] at y1 HF
      rw [hb] at y2 HF
      have hkk : (0 : Int) ≤ (k : Int) := by omega
      have hkl : (k : Int) < (m : Int) := by omega
      have hbn : b2 ≠ w.heap.size + 1 + 1 + 1 ∨ True := Or.inr trivial
      clear x1 x2 ha hb hbn
      by_cases hak : a = s.key
      · have hae : (a == s.key) = true := by simp [hak]
        rw [if_pos hak, if_pos hak] at HF
        have S1 := hM.out.store (i := 0) (j := 1) rfl (.bool true) rfl
        have S2 := S1.store (i := 0) (j := 2) rfl (.int .i64 b) rfl
        have HS := hideIt (fun d => (M.drewN S2 d))
        have hlb : b2 < w.heap.size := HV.out.blk_lt k hlt
        have hne : b2 ≠ w.heap.size + 1 + 1 + 1 := by omega
        clear S1 S2 hak
        go_wp2
        go_quiet (fail)
        go_wp2
        go_roundw
        case rel => exact ⟨k + 1, by omega, by go_num, by rw [HF.out.1, HF.out.2]; exact HS.out _⟩
        case measure => simp [intOf]; omega
      · have hae : (a == s.key) = false := by simp [hak]
        rw [if_neg hak, if_neg hak] at HF
        clear hak
        go_wp2
        go_quiet (fail)
        go_wp2
        go_roundw
        case rel => exact ⟨k + 1, by omega, by go_num, by rw [HF.out.1, HF.out.2]; exact hM.out.drewN _⟩
        case measure => simp [intOf]; omega
    · obtain rfl : k = m := by omega
      have r0 := hM.out.cell (i := 1) rfl 0 (.int .i64 0) rfl
      have r1 := hM.out.cell (i := 1) rfl 1 (.bool false) rfl
      have r2 := hM.out.cell (i := 1) rfl 2 (.int .i64 0) rfl
      have r3 := hM.out.cell (i := 1) rfl 3 (.int .i64 0) rfl
      have r4 := hM.out.cell (i := 1) rfl 4 (.slice none 0 0) rfl
      have r5 := hM.out.cell (i := 1) rfl 5 (.slice none 0 0) rfl
      have r6 := hM.out.cell (i := 1) rfl 6 (.slice none 0 0) rfl
      have g0 := hM.out.free (i := 1) rfl 0
      have g1 := hM.out.free (i := 1) rfl 1
      have g2 := hM.out.free (i := 1) rfl 2
      have g3 := hM.out.free (i := 1) rfl 3
      have g4 := hM.out.free (i := 1) rfl 4
      have g5 := hM.out.free (i := 1) rfl 5
      have g6 := hM.out.free (i := 1) rfl 6
      go_wp2
      refine bodyPost_ret (v := .agg (ansG (fndB n.ks s.key k) (fndV n.ks n.vs s.key k) s.step)) (by simp [results, Tryd.results102, go_sem, ansG, *]) rfl ⟨rfl, ?_⟩
      repeat (refine Below.setCell ?_ (by show w.heap.size ≤ w.heap.size + 1 + 1; omega) _)
      exact hM.out.bl
end Go.Proofs.YtjpgldeeopmbgaaDoor.Sap
