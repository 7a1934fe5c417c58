/- WHAT IS PROVED HERE: what tree.tellSwap answers: an operation whose Swap was done has ended; else its page is read again. Conditions: named at each theorem. -/
import Derived.Test.YtjpgldeeopmbgaaDoorV3
namespace Go.Proofs.YtjpgldeeopmbgaaDoor.Sap
open Go.RowKit

/-- The state in which the page is read again. -/
def stAgain (s : St) : St := ⟨s.kd, s.key, s.val, s.step, 0, [], [], [], [], ⟨#[]⟩, 0, false, 0⟩

set_option maxRecDepth 100000 in
set_option maxHeartbeats 1600000 in
theorem tellSwap_done (s : St) (kv vv bv pv : Value) (w : World) (hv : StV w s kv vv bv pv) :
    Calls Tryd.prog 96 #[.agg #[.int .i64 s.kd, .int .i64 s.key, .int .i64 s.val, .int .i64 s.step, .int .i64 s.pg, kv, vv, bv, pv, .string s.sw, .int .i64 s.ver, .bool s.fnd, .int .i64 s.va], .bool true] w fun e w' => e = .returned (.tuple #[.string ⟨#[]⟩, .agg #[.int .i64 0, .bool s.fnd, .int .i64 s.va, .int .i64 s.step, .slice none 0 0, .slice none 0 0, .slice none 0 0], .bool true, .int .i64 0]) ∧ Below w.heap.size w w' := by
  obtain ⟨ak, ck, rfl⟩ := hv.keys.len
  obtain ⟨av, cv, rfl⟩ := hv.vals.len
  obtain ⟨ab, cb, rfl⟩ := hv.bel.len
  obtain ⟨ap, cp, rfl⟩ := hv.pts.len
  have HB2 : Hid (∀ o1 o2, Below w.heap.size w (((w.alloc o1).alloc o2).drew)) := fun o1 o2 => (((M.start w).allocd o1).allocd o2).drew.bl
  clear hv
  go_enter Tryd.func96, Tryd.ntmps96
  go_wp2
  go_region
  go_wp2
  refine bodyPost_ret (v := .tuple #[.string ⟨#[]⟩, .agg #[.int .i64 0, .bool s.fnd, .int .i64 s.va, .int .i64 s.step, .slice none 0 0, .slice none 0 0, .slice none 0 0], .bool true, .int .i64 0]) (by simp [results, Tryd.results96, go_sem, *]) rfl ⟨rfl, ?_⟩
  exact HB2.out _ _

set_option maxRecDepth 100000 in
set_option maxHeartbeats 1600000 in
theorem tellSwap_not (s : St) (kv vv bv pv : Value) (w : World) (htab : Tab w) (hv : StV w s kv vv bv pv) (hi : StI s) (hs : s.step ≤ 1000000000) (hs0 : 0 ≤ s.step) (hn : 0 ≤ s.pg) :
    Calls Tryd.prog 96 #[.agg #[.int .i64 s.kd, .int .i64 s.key, .int .i64 s.val, .int .i64 s.step, .int .i64 s.pg, kv, vv, bv, pv, .string s.sw, .int .i64 s.ver, .bool s.fnd, .int .i64 s.va], .bool false] w fun e w' => OnR { stAgain s with pg := s.pg, step := s.step + 1 } e ∧ Below w.heap.size w w' := by
  obtain ⟨ak, ck, rfl⟩ := hv.keys.len
  obtain ⟨av, cv, rfl⟩ := hv.vals.len
  obtain ⟨ab, cb, rfl⟩ := hv.bel.len
  obtain ⟨ap, cp, rfl⟩ := hv.pts.len
  have A0 := (((M.start w).alloc #[.int .i64 s.kd, .int .i64 s.key, .int .i64 s.val, .int .i64 s.step, .int .i64 s.pg, .slice ak s.keys.length ck, .slice av s.vals.length cv, .slice ab s.bel.length cb, .slice ap s.pts.length cp, .string s.sw, .int .i64 s.ver, .bool s.fnd, .int .i64 s.va] 104).alloc #[.int .i64 0, .bool false, .int .i64 0, .int .i64 0, .slice none 0 0, .slice none 0 0, .slice none 0 0] 66).alloc #[.int .i64 s.kd, .int .i64 s.key, .int .i64 s.val, .int .i64 s.step, .int .i64 0, .slice none 0 0, .slice none 0 0, .slice none 0 0, .slice none 0 0, .string ⟨#[]⟩, .int .i64 0, .bool false, .int .i64 0] 104
  rw [alloc_size, alloc_size] at A0
  have HA := hideIt A0
  have C := hideIt (fun W (hb : Below w.heap.size w W) => goOn_any (stAgain s) s.pg (.slice none 0 0) (.slice none 0 0) (.slice none 0 0) (.slice none 0 0) W (htab.below hb) ⟨rd_nil _, rd_nil _, rd_nil _, rd_nil _⟩ ⟨hi.kd, hi.key, hi.val, by unfold I64; simp only [stAgain]; omega, hi.pg, by unfold I64; simp [stAgain], by unfold I64; simp [stAgain], by simp [stAgain], by simp [stAgain], by simp [stAgain], by simp [stAgain], by simp [stAgain], by simp [stAgain], by simp [stAgain], by simp [stAgain], by show (⟨#[]⟩ : ByteArray).size ≤ 47; decide⟩ hs hs0 hn)
  clear hv hi A0 htab
  go_enter Tryd.func96, Tryd.ntmps96
  go_wp2_with fail
  refine (C.out _ HA.out.bl).mono ?_
  rintro e w1 ⟨⟨c, rfl, hc⟩, hb⟩
  have HC := hideIt hc
  have A1 := hideIt (HA.out.below hb)
  clear hc hb C HA
  obtain ⟨gs, hgs⟩ : ∃ g, w.heap.size = g := ⟨_, rfl⟩
  have HGS := hideIt hgs
  rw [hgs] at A1 ⊢
  clear hgs
  have r0 := A1.out.cell (i := 1) rfl 0 (.int .i64 0) rfl
  have e0 := A1.out.free (i := 1) rfl 0
  have r1 := A1.out.cell (i := 1) rfl 1 (.bool false) rfl
  have e1 := A1.out.free (i := 1) rfl 1
  have r2 := A1.out.cell (i := 1) rfl 2 (.int .i64 0) rfl
  have e2 := A1.out.free (i := 1) rfl 2
  have r3 := A1.out.cell (i := 1) rfl 3 (.int .i64 0) rfl
  have e3 := A1.out.free (i := 1) rfl 3
  have r4 := A1.out.cell (i := 1) rfl 4 (.slice none 0 0) rfl
  have e4 := A1.out.free (i := 1) rfl 4
  have r5 := A1.out.cell (i := 1) rfl 5 (.slice none 0 0) rfl
  have e5 := A1.out.free (i := 1) rfl 5
  have r6 := A1.out.cell (i := 1) rfl 6 (.slice none 0 0) rfl
  have e6 := A1.out.free (i := 1) rfl 6
  have hla := A1.out.lt (i := 1) rfl
  have S7 := hideIt (A1.out.store7 (i := 1) rfl (.int .i64 0) (.bool false) (.int .i64 0) (.int .i64 0) (.slice none 0 0) (.slice none 0 0) (.slice none 0 0)).bl
  clear A1
  rw [ans0]
  go_wp2
  refine bodyPost_ret (v := .tuple #[.string c, .agg ans0, .bool false, .int .i64 0]) (by simp [results, Tryd.results96, go_sem, ans0, *]) rfl ⟨⟨c, rfl, HC.out⟩, ?_⟩
  rw [HGS.out]
  exact S7.out
end Go.Proofs.YtjpgldeeopmbgaaDoor.Sap
