/- WHAT IS PROVED HERE: saplingkeep.right makes a right operation of any. Conditions: named at each theorem. -/
import Derived.Test.YtajobgmnmbnhiaaGreatDoorXW13R1
import Derived.Test.YtajobgmnmbnhiaaGreatDoorXU0T2
import Derived.Deep.RegionHeld3
import Derived.Deep.DeepCutAuto
namespace Go.Proofs.YtajobgmnmbnhiaaGreatDoor.Sap
open Go.RowKit

/-- What right makes of a raw operation. -/
def rKd (k : Int) : Int := 1 + pickV k 4
def rKey (key : Int) : Int := 1 + pickV key 9999
def rVal (k key v : Int) : Int := if rKd k = 2 then pickV v 10000 else if rKd k = 4 then rKey key + pickV v (9999 - rKey key + 1) else v
theorem right_right (k key v : Int) : opR (rKd k) (rKey key) (rVal k key v) = true := by
  have h1 := pickV_bd k 4 (by omega)
  have h2 := pickV_bd key 9999 (by omega)
  have h3 := pickV_bd v 10000 (by omega)
  have h4 := pickV_bd v (9999 - rKey key + 1) (by unfold rKey; omega)
  simp only [opR, Bool.and_eq_true, Bool.or_eq_true, decide_eq_true_eq]
  refine ⟨by unfold rKey; omega, ?_⟩
  by_cases e2 : rKd k = 2
  · have : rVal k key v = pickV v 10000 := by unfold rVal; rw [if_pos e2]
    rw [this]; omega
  by_cases e4 : rKd k = 4
  · have : rVal k key v = rKey key + pickV v (9999 - rKey key + 1) := by unfold rVal; rw [if_neg e2, if_pos e4]
    rw [this]; omega
  unfold rKd at e2 e4 ⊢
  omega

/-- The memory of right: the raw operation, the result, the one in making. -/
structure RM (w wr : World) (k key v a b c : Int) : Prop where
  raw : wr.heap[w.heap.size]? = some (.cells #[.int .i64 k, .int .i64 key, .int .i64 v] 36 (0, 0))
  res : wr.heap[w.heap.size + 1]? = some (.cells #[.int .i64 0, .int .i64 0, .int .i64 0] 36 (0, 0))
  new : wr.heap[w.heap.size + 1 + 1]? = some (.cells #[.int .i64 a, .int .i64 b, .int .i64 c] 36 (0, 0))
  bl : Below w.heap.size w wr
theorem RM.mk0 (w : World) (k key v a b c : Int) : RM w (((w.alloc (.cells #[.int .i64 k, .int .i64 key, .int .i64 v] 36)).alloc (.cells #[.int .i64 0, .int .i64 0, .int .i64 0] 36)).alloc (.cells #[.int .i64 a, .int .i64 b, .int .i64 c] 36)) k key v a b c := by
  refine ⟨block_alloc (block_alloc (heap_alloc_new w _) _) _, ?_, ?_, (((Below.refl _ _).alloc (Nat.le_refl _) _).alloc (by simp) _).alloc (by simp; omega) _⟩
  · have := heap_alloc_new (w.alloc (.cells #[.int .i64 k, .int .i64 key, .int .i64 v] 36)) (.cells #[.int .i64 0, .int .i64 0, .int .i64 0] 36)
    rw [alloc_size] at this
    exact block_alloc this _
  · have := heap_alloc_new ((w.alloc (.cells #[.int .i64 k, .int .i64 key, .int .i64 v] 36)).alloc (.cells #[.int .i64 0, .int .i64 0, .int .i64 0] 36)) (.cells #[.int .i64 a, .int .i64 b, .int .i64 c] 36)
    rw [alloc_size, alloc_size] at this
    exact this
theorem RM.drew {w wr : World} {k key v a b c : Int} (h : RM w wr k key v a b c) : RM w wr.drew k key v a b c := ⟨h.raw, h.res, h.new, h.bl.drew⟩
theorem RM.set {w wr : World} {k key v a b c : Int} (h : RM w wr k key v a b c) (d : Int) : RM w (wr.setCell ⟨w.heap.size + 1 + 1, 2, none⟩ (.int .i64 d)) k key v a b d := by
  refine ⟨?_, ?_, ?_, h.bl.setCell (by show w.heap.size ≤ w.heap.size + 1 + 1; omega) _⟩
  · rw [Below.heap_setCell _ _ _ _ (by show w.heap.size ≠ w.heap.size + 1 + 1; omega)]; exact h.raw
  · rw [Below.heap_setCell _ _ _ _ (by show w.heap.size + 1 ≠ w.heap.size + 1 + 1; omega)]; exact h.res
  · rw [Go.Joins.block_setCell h.new]; rfl

/-- What pick may be asked. -/
def PickOk (c n : Int) : Prop := I64 c ∧ 1 ≤ n ∧ n ≤ 10000
theorem pick_ok (c n : Int) (w : World) (h : PickOk c n) : Calls Tryz.prog 26 #[.int .i64 c, .int .i64 n] w fun e w' => e = .returned (.int .i64 (pickV c n)) ∧ w' = w := pick_exact c n w h.1.1 h.1.2 h.2.1 h.2.2

set_option maxRecDepth 100000 in
set_option maxHeartbeats 3200000 in
theorem right_make (k key v : Int) (w : World) (hk : I64 k) (hkey : I64 key) (hv : I64 v) :
    Calls Tryz.prog 9 #[.agg #[.int .i64 k, .int .i64 key, .int .i64 v]] w fun e w' => e = .returned (.agg #[.int .i64 (rKd k), .int .i64 (rKey key), .int .i64 (rVal k key v)]) ∧ Below w.heap.size w w' := by
  obtain ⟨hp1, hp3⟩ := pickV_bd k 4 (by omega)
  obtain ⟨hp2, hp4⟩ := pickV_bd key 9999 (by omega)
  have P1 : PickOk k 4 := ⟨hk, by omega, by omega⟩
  have P2 : PickOk key 9999 := ⟨hkey, by omega, by omega⟩
  have P3 : PickOk v 10000 := ⟨hv, by omega, by omega⟩
  have hK : rKd k = 1 ∨ rKd k = 2 ∨ rKd k = 3 ∨ rKd k = 4 := by unfold rKd; omega
  have hy1 : 1 ≤ rKey key := by unfold rKey; omega
  have hy2 : rKey key ≤ 9999 := by unfold rKey; omega
  have HV : Hid (rVal k key v = if rKd k = 2 then pickV v 10000 else if rKd k = 4 then rKey key + pickV v (9999 - rKey key + 1) else v) := rfl
  have HK1 : Hid (1 + pickV k 4 = rKd k) := rfl
  have HY1 : Hid (1 + pickV key 9999 = rKey key) := rfl
  obtain ⟨rv, hrv⟩ : ∃ x, rVal k key v = x := ⟨_, rfl⟩
  obtain ⟨rk, hrk⟩ : ∃ x, rKd k = x := ⟨_, rfl⟩
  obtain ⟨ry, hry⟩ : ∃ x, rKey key = x := ⟨_, rfl⟩
  rw [hrk] at HV HK1 hK ⊢
  rw [hry] at HV HY1 hy1 hy2 ⊢
  rw [hrv] at HV ⊢
  have P4 : PickOk v (9999 - ry + 1) := ⟨hv, by omega, by omega⟩
  obtain ⟨P5, P6⟩ := pickV_bd v (9999 - ry + 1) (by omega)
  have e1 : IntKind.i64.wrap (IntKind.i64.wrap (9999 - ry) + 1) = 9999 - ry + 1 := by rw [Go.IntWalk.i64_in (9999 - ry) (by omega), Go.IntWalk.i64_in _ (by omega)]
  have P4' : PickOk v (IntKind.i64.wrap (IntKind.i64.wrap (9999 - ry) + 1)) := by rw [e1]; exact P4
  have HE : Hid (IntKind.i64.wrap (ry + pickV v (IntKind.i64.wrap (IntKind.i64.wrap (9999 - ry) + 1))) = ry + pickV v (9999 - ry + 1)) := by unfold Hid; rw [e1, Go.IntWalk.i64_in _ (by omega)]
  have HE1 : Hid (IntKind.i64.wrap (1 + pickV k 4) = rk) := by rw [← HK1.out]; exact Go.IntWalk.i64_in _ (by omega)
  have HE2 : Hid (IntKind.i64.wrap (1 + pickV key 9999) = ry) := by rw [← HY1.out]; exact Go.IntWalk.i64_in _ (by omega)
  clear hrv hrk hry hk hkey hv e1
  have HKK := hideIt hK
  clear hK
  go_enter Tryz.func9, Tryz.ntmps9
  go_upto_region 1 with fail
  go_cut [3] (fun t wr => t = .pointer (some ⟨w.heap.size + 1 + 1, 0, none⟩) ∧ Hid (RM w wr k key v rk ry v))
  case first =>
    go_region_held3 (fun W => W.cell? ⟨w.heap.size, 0, none⟩ = some (.int .i64 k) ∧ W.cell? ⟨w.heap.size, 1, none⟩ = some (.int .i64 key) ∧ W.cell? ⟨w.heap.size, 2, none⟩ = some (.int .i64 v)) (go_keep) ((go_at_call 26; refine (pick_ok _ _ _ (by assumption)).mono ?_; rintro e w' ⟨rfl, rfl⟩))
    all_goals
      go_wp2
      go_meet
      case rel =>
        refine ⟨rfl, ?_⟩
        rw [HE1.out, HE2.out]
        exact (RM.mk0 w k key v rk ry v).drew
  case rest =>
    obtain ⟨rfl, hR⟩ := hcut
    have p0 := cellOf hR.out.raw 0 _ rfl
    have p1 := cellOf hR.out.raw 1 _ rfl
    have p2 := cellOf hR.out.raw 2 _ rfl
    have q0 := cellOf hR.out.new 0 _ rfl
    have q1 := cellOf hR.out.new 1 _ rfl
    have q2 := cellOf hR.out.new 2 _ rfl
    have g2 := Go.Joins.unfrozen_of_block hR.out.new 2
    have r0 := cellOf hR.out.res 0 _ rfl
    have r1 := cellOf hR.out.res 1 _ rfl
    have r2 := cellOf hR.out.res 2 _ rfl
    have f0 := Go.Joins.unfrozen_of_block hR.out.res 0
    have f1 := Go.Joins.unfrozen_of_block hR.out.res 1
    have f2 := Go.Joins.unfrozen_of_block hR.out.res 2
    rcases HKK.out with rfl | rfl | rfl | rfl
    · rw [if_neg (by omega), if_neg (by omega)] at HV
      go_wp2
      refine bodyPost_ret (v := .agg #[.int .i64 1, .int .i64 ry, .int .i64 v]) (by simp [results, Tryz.results9, go_sem, *]) rfl ⟨by rw [HV.out], ?_⟩
      repeat (refine Below.setCell ?_ (by simp) _)
      exact hR.out.bl
    · rw [if_pos rfl] at HV
      go_wp2_with fail
      refine (pick_ok _ _ _ P3).mono ?_
      rintro e w' ⟨rfl, rfl⟩
      rw [← HV.out]
      go_wp2
      refine bodyPost_ret (v := .agg #[.int .i64 2, .int .i64 ry, .int .i64 rv]) (by simp [results, Tryz.results9, go_sem, *]) rfl ⟨rfl, ?_⟩
      repeat (refine Below.setCell ?_ (by simp <;> omega) _)
      exact hR.out.bl
    · rw [if_neg (by omega), if_neg (by omega)] at HV
      go_wp2
      refine bodyPost_ret (v := .agg #[.int .i64 3, .int .i64 ry, .int .i64 v]) (by simp [results, Tryz.results9, go_sem, *]) rfl ⟨by rw [HV.out], ?_⟩
      repeat (refine Below.setCell ?_ (by simp) _)
      exact hR.out.bl
    · rw [if_neg (by omega), if_pos rfl] at HV
      go_upto_region 6 with fail
      go_region_held3 (fun W => W.cell? ⟨w.heap.size + 1 + 1, 1, none⟩ = some (.int .i64 ry) ∧ W.cell? ⟨w.heap.size, 2, none⟩ = some (.int .i64 v)) (first | exact ⟨q1, p2⟩ | exact ⟨(cell_set_off _ _ _ _ _ (by omega)).trans q1, (cell_set_blk _ _ _ _ _ _ (by omega)).trans p2⟩) ((go_at_call 26; refine (pick_ok _ _ _ (by assumption)).mono ?_; rintro e w' ⟨rfl, rfl⟩))
      all_goals
        go_wp2
        refine bodyPost_ret (v := .agg #[.int .i64 4, .int .i64 ry, .int .i64 (ry + pickV v (9999 - ry + 1))]) (by simp [results, Tryz.results9, go_sem, *]) rfl ⟨by rw [HV.out], ?_⟩
        refine Below.drew ?_
        repeat (refine Below.setCell ?_ (by simp <;> omega) _)
        exact hR.out.bl
end Go.Proofs.YtajobgmnmbnhiaaGreatDoor.Sap
