/- WHAT IS PROVED HERE: the whole walk of saplingkeep.Begun: it answers true, and nothing that was there has turned. Conditions: the table of powers of ten is laid; the operation's numbers are ints. -/
import Derived.Test.YtajobgmnmbnhiaaDoorT9
import Derived.Test.YtajobgmnmbnhiaaDoorT8
import Derived.Test.YtajobgmnmbnhiaaDoorT3
namespace Go.Proofs.YtajobgmnmbnhiaaDoor.Sap
open Go.RowKit

theorem st0_ok (k key v : Int) (h : opR k key v = true) : StOk (st0 k key v) := by
  simp only [opR, Bool.and_eq_true, Bool.or_eq_true, decide_eq_true_eq] at h
  have hval : Fr (st0 k key v).val := by unfold st0 Fr; simp only; split <;> omega
  refine ⟨?_, hval, by unfold st0 Fr; simp, by unfold st0; simp, by simp [st0], by simp [st0], by simp [st0], by simp [st0], by simp [st0], by simp [st0], by simp [st0], by simp [st0, keysOk], Or.inr ⟨rfl, rfl, rfl, rfl⟩, by unfold st0 Fr; simp, by unfold st0 Fr; simp, by unfold st0 Fr; simp, by unfold st0 Fr; simp, by unfold st0 Fr; simp, by unfold st0 Fr; simp, (show (⟨#[]⟩ : ByteArray).size ≤ 47 by decide), Or.inl ⟨rfl, rfl, rfl⟩, by simp [st0], by simp [st0], Or.inr rfl, rfl, by simp [st0], by simp [st0], Or.inl ⟨rfl, rfl, rfl, rfl⟩⟩
  unfold st0
  simp only [opR, Bool.and_eq_true, Bool.or_eq_true, decide_eq_true_eq]
  split <;> omega

set_option maxRecDepth 100000 in
set_option maxHeartbeats 3200000 in
theorem begun_walk (k key v : Int) (w : World) (htab : Tab w) (hk : I64 k) (hkey : I64 key) (hv : I64 v) :
    Calls Tryd.prog 6 #[.agg #[.int .i64 k, .int .i64 key, .int .i64 v]] w fun e w' => e = .returned (.bool true) ∧ Below w.heap.size w w' := by
  have HO := hideIt (right_right k key v)
  have C := hideIt (fun W => right_make k key v W hk hkey hv)
  obtain ⟨rk, hrk⟩ : ∃ x, rKd k = x := ⟨_, rfl⟩
  obtain ⟨ry, hry⟩ : ∃ x, rKey key = x := ⟨_, rfl⟩
  obtain ⟨rv, hrv⟩ : ∃ x, rVal k key v = x := ⟨_, rfl⟩
  rw [hrk, hry, hrv] at HO
  rw [hrk, hry, hrv] at C
  have H5 : Hid (opR 5 ry rv = false) := by unfold Hid opR; simp
  have HT := hideIt htab
  clear hrk hry hrv hk hkey hv htab
  have N0 := hideIt (heap_alloc_new w (.cells #[.int .i64 k, .int .i64 key, .int .i64 v] 37))
  have B0 := hideIt ((Below.refl w.heap.size w).alloc (Nat.le_refl _) (.cells #[.int .i64 k, .int .i64 key, .int .i64 v] 37))
  go_enter Tryd.func6, Tryd.ntmps6
  go_wp2_with fail
  refine (first_any _).mono ?_
  rintro e w' ⟨rfl, rfl⟩
  go_wp2_with fail
  refine (unpack_any firstB _ (by decide)).mono ?_
  rintro e w1 ⟨hU, hb⟩
  obtain ⟨ak, ck, av, cv, -, rfl⟩ := first_view hU
  clear hU
  have N1 := hideIt (block_below N0.out hb)
  have B1 := hideIt (step B0.out hb)
  have s1 := lt_of_block N1.out
  clear hb
  have q0 := cellOf N1.out 0 _ rfl
  have q1 := cellOf N1.out 1 _ rfl
  have q2 := cellOf N1.out 2 _ rfl
  go_wp2_with fail
  have B2 := hideIt (B1.out.alloc B1.out.size (.cells #[.int .i64 0, .int .i64 (-1), .int .i64 10000, .slice ak 0 ck, .slice av 0 cv] 24))
  refine (C.out _).mono ?_
  rintro e w2 ⟨rfl, hb⟩
  have B3 := hideIt (step B2.out hb)
  clear hb q0 q1 q2 C N0 N1
  have M0 := hideIt (heap_alloc_new w2 (.cells #[.int .i64 rk, .int .i64 ry, .int .i64 rv] 37))
  have B4 := hideIt (B3.out.alloc B3.out.size (.cells #[.int .i64 rk, .int .i64 ry, .int .i64 rv] 37))
  go_wp2_with fail
  refine (begin_any rk ry rv _ (HT.out.below B4.out)).mono ?_
  rintro e w3 ⟨hR, hb⟩
  rcases hR with ⟨ho, -⟩ | ⟨-, f, rfl, hf⟩
  · rw [HO.out] at ho; cases ho
  have HF := hideIt hf
  have M1 := hideIt (block_below M0.out hb)
  have B5 := hideIt (step B4.out hb)
  clear hb hf M0
  go_wp2_with fail
  refine (next_read (st0 rk ry rv) f _ HF.out (st0_ok _ _ _ HO.out) rfl).mono ?_
  rintro e w4 ⟨rfl, hb⟩
  rw [show (st0 rk ry rv).pg = 0 from rfl]
  have M2 := hideIt (block_below M1.out hb)
  have B6 := hideIt (step B5.out hb)
  have s2 := lt_of_block M2.out
  clear hb M1
  have q0 := cellOf M2.out 0 _ rfl
  have q1 := cellOf M2.out 1 _ rfl
  have q2 := cellOf M2.out 2 _ rfl
  go_wp2_with fail
  have B7 := hideIt ((B6.out.alloc B6.out.size (.cells #[.int .i64 1, .int .i64 0, .int .i64 0, .string ⟨#[]⟩] 45)).alloc (B6.out.alloc B6.out.size _).size (.cells #[.int .i64 rk, .int .i64 0, .int .i64 rv] 37))
  have P7 := hideIt (block_alloc (block_alloc M2.out (.cells #[.int .i64 1, .int .i64 0, .int .i64 0, .string ⟨#[]⟩] 45)) (.cells #[.int .i64 rk, .int .i64 0, .int .i64 rv] 37))
  have Q7 := hideIt (heap_alloc_new (w4.alloc (.cells #[.int .i64 1, .int .i64 0, .int .i64 0, .string ⟨#[]⟩] 45)) (.cells #[.int .i64 rk, .int .i64 0, .int .i64 rv] 37))
  rw [alloc_size] at Q7
  refine (begin_any rk 0 rv _ (HT.out.below B7.out)).mono ?_
  rintro e w5 ⟨hR, hb⟩
  rcases hR with ⟨-, rfl⟩ | ⟨ho, -⟩
  case inr => rw [(opR_lo rk 0 rv (by omega)).out] at ho; cases ho
  have B8 := hideIt (step B7.out hb)
  have P8 := hideIt (block_below P7.out hb)
  have Q8 := hideIt (block_below Q7.out hb)
  clear hb q0 q1 q2 P7 Q7 M2
  have q0 := cellOf Q8.out 0 _ rfl
  have q1 := cellOf Q8.out 1 _ rfl
  have q2 := cellOf Q8.out 2 _ rfl
  have f1 := Go.Joins.unfrozen_of_block Q8.out 1
  have hle : w.heap.size ≤ w4.heap.size := B6.out.size
  go_wp2_with fail
  have B9 := hideIt (Below.setCell B8.out (show w.heap.size ≤ (⟨w4.heap.size + 1, 1, none⟩ : Addr).block from by show w.heap.size ≤ w4.heap.size + 1; omega) (.int .i64 10000))
  have Q9 := hideIt (Go.Joins.block_setCell Q8.out (i := 1) (.int .i64 10000))
  have P9 : Hid ((w5.setCell ⟨w4.heap.size + 1, 1, none⟩ (.int .i64 10000)).heap[w2.heap.size]? = some (.cells #[.int .i64 rk, .int .i64 ry, .int .i64 rv] 37 (0, 0))) := by
    unfold Hid; rw [Below.heap_setCell _ _ _ _ (by show w2.heap.size ≠ w4.heap.size + 1; omega)]; exact P8.out
  refine (begin_any rk 10000 rv _ (HT.out.below B9.out)).mono ?_
  rintro e w6 ⟨hR, hb⟩
  rcases hR with ⟨-, rfl⟩ | ⟨ho, -⟩
  case inr => rw [(opR_hi rk 10000 rv (by omega)).out] at ho; cases ho
  have B10 := hideIt (step B9.out hb)
  have P10 := hideIt (block_below P9.out hb)
  have Q10 := hideIt (block_below Q9.out hb)
  clear hb q0 q1 q2 f1 P8 Q8 P9 Q9
  have q0 := cellOf Q10.out 0 _ rfl
  have q1 := cellOf Q10.out 1 _ rfl
  have q2 := cellOf Q10.out 2 _ rfl
  have f0 := Go.Joins.unfrozen_of_block Q10.out 0
  have f1 := Go.Joins.unfrozen_of_block Q10.out 1
  have f2 := Go.Joins.unfrozen_of_block Q10.out 2
  have p0 := cellOf P10.out 0 _ rfl
  have p1 := cellOf P10.out 1 _ rfl
  have p2 := cellOf P10.out 2 _ rfl
  go_wp2_with fail
  have B11 : Hid (Below w.heap.size w ((((w6.setCell ⟨w4.heap.size + 1, 0, none⟩ (.int .i64 rk)).setCell ⟨w4.heap.size + 1, 1, none⟩ (.int .i64 ry)).setCell ⟨w4.heap.size + 1, 2, none⟩ (.int .i64 rv)).setCell ⟨w4.heap.size + 1, 0, none⟩ (.int .i64 5))) := by
    repeat (refine Below.setCell ?_ (by show w.heap.size ≤ w4.heap.size + 1; omega) _)
    exact B10.out
  refine (begin_any 5 ry rv _ (HT.out.below B11.out)).mono ?_
  rintro e w7 ⟨hR, hb⟩
  rcases hR with ⟨-, rfl⟩ | ⟨ho, -⟩
  case inr => rw [H5.out] at ho; cases ho
  have B12 := hideIt (step B11.out hb)
  clear hb q0 q1 q2 f0 f1 f2 p0 p1 p2
  go_wp2
  go_ret
  exact ⟨rfl, B12.out⟩
end Go.Proofs.YtajobgmnmbnhiaaDoor.Sap
