/- WHAT IS PROVED HERE: saplingkeep's pieces answers true of a Scan that has ended as it should, each piece held against the map of its time. Conditions: all operations have ended; what is asked of each piece is named at the theorem. -/
import Derived.Test.YtajobgmnmbnhiaaDoorPt08
import Derived.Test.YtajobgmnmbnhiaaDoorPt36
namespace Go.Proofs.YtajobgmnmbnhiaaDoor.Sap
open Go.RowKit
theorem cutc_at {l : List (Int × Int)} : ∀ {i : Nat} {c : Int × Int}, l[i]? = some c → (cutc l)[i * 2]? = some (.int .i64 c.1) ∧ (cutc l)[i * 2 + 1]? = some (.int .i64 c.2) := by
  induction l with
  | nil => intro i d h; simp at h
  | cons a l ih =>
    intro i d h
    have e : cutc (a :: l) = [.int .i64 a.1, .int .i64 a.2] ++ cutc l := rfl
    rw [e]
    cases i with
    | zero => simp at h; subst h; exact ⟨rfl, rfl⟩
    | succ i =>
      obtain ⟨h1, h2⟩ := ih (i := i) (c := d) (by simpa using h)
      rw [show (i + 1) * 2 = 2 + i * 2 by omega]
      refine ⟨?_, ?_⟩
      · rw [List.getElem?_append_right (by simp)]; simpa using h1
      · rw [List.getElem?_append_right (by simp; omega)]; simpa [Nat.add_assoc] using h2
def CRd (w : World) (v : Value) (cs : List (Int × Int)) : Prop :=
  ∃ ao cap, v = .slice ao cs.length cap ∧ (0 < cs.length → ∃ b, ao = some ⟨b, 0, none⟩ ∧ ∀ (j : Nat) (c : Int × Int), cs[j]? = some c → w.cell? ⟨b, j * 2, none⟩ = some (.int .i64 c.1) ∧ w.cell? ⟨b, j * 2 + 1, none⟩ = some (.int .i64 c.2))
theorem CRd.below {w w' : World} {v : Value} {cs : List (Int × Int)} (h : CRd w v cs) (hb : Below w.heap.size w w') : CRd w' v cs := by
  obtain ⟨ao, cap, rfl, h⟩ := h
  refine ⟨ao, cap, rfl, fun hp => ?_⟩
  obtain ⟨b, rfl, k⟩ := h hp
  refine ⟨b, rfl, fun j c hj => ?_⟩
  obtain ⟨h0, h1⟩ := k j c hj
  exact ⟨cell_below hb _ _ h0, cell_below hb _ _ h1⟩
set_option maxRecDepth 100000 in
set_option maxHeartbeats 6400000 in
theorem alike_yes (er va pt : Int) (fd : Bool) (kv vv cv kv' vv' cv' : Value) (ks vs : List Int) (cs : List (Int × Int)) (w : World) (rk : Rd w kv ks) (rk' : Rd w kv' ks) (rv : Rd w vv vs) (rv' : Rd w vv' vs) (rc : CRd w cv cs) (rc' : CRd w cv' cs) (hk : ks.length ≤ 1000000) (hv : vs.length ≤ 1000000) (hc : cs.length ≤ 1000000) :
    Calls Tryd.prog 62 #[.agg #[.int .i64 er, .bool fd, .int .i64 va, .int .i64 pt, kv, vv, cv], .agg #[.int .i64 er, .bool fd, .int .i64 va, .int .i64 pt, kv', vv', cv']] w fun e w' => e = .returned (.bool true) ∧ Below w.heap.size w w' := by
  have HRK := hideIt rk
  have HRK' := hideIt rk'
  have HRV := hideIt rv
  have HRV' := hideIt rv'
  have HRC := hideIt rc
  have HRC' := hideIt rc'
  obtain ⟨ak, ck, rfl⟩ := rk.len
  obtain ⟨ak', ck', rfl⟩ := rk'.len
  obtain ⟨av, cv0, rfl⟩ := rv.len
  obtain ⟨av', cv0', rfl⟩ := rv'.len
  obtain ⟨ac, cc, rfl, -⟩ := rc
  obtain ⟨ac', cc', rfl, -⟩ := rc'
  have A0 := hideIt (((M.start w).alloc #[.int .i64 er, .bool fd, .int .i64 va, .int .i64 pt, .slice ak ks.length ck, .slice av vs.length cv0, .slice ac cs.length cc] 76).alloc #[.int .i64 er, .bool fd, .int .i64 va, .int .i64 pt, .slice ak' ks.length ck', .slice av' vs.length cv0', .slice ac' cs.length cc'] 76)
  rw [alloc_size] at A0
  have hb1 : (er != er) = false := by simp
  have hb2 : (va != va) = false := by simp
  have hb3 : (pt != pt) = false := by simp
  have hb4 : (fd != fd) = false := by simp
  obtain ⟨nk, hnk⟩ : ∃ n, ks.length = n := ⟨_, rfl⟩
  obtain ⟨nv, hnv⟩ : ∃ n, vs.length = n := ⟨_, rfl⟩
  obtain ⟨nc, hnc⟩ : ∃ n, cs.length = n := ⟨_, rfl⟩
  have HNK := hideIt hnk
  have HNV := hideIt hnv
  have HNC := hideIt hnc
  rw [hnk] at A0 hk HRK HRK' ⊢
  rw [hnv] at A0 hv HRV HRV' ⊢
  rw [hnc] at A0 hc HRC HRC' ⊢
  have hb5 : ((nk : Int) != (nk : Int)) = false := by simp
  have hb6 : ((nv : Int) != (nv : Int)) = false := by simp
  have hb7 : ((nc : Int) != (nc : Int)) = false := by simp
  clear rk rk' rv rv' hnk hnv hnc
  obtain ⟨gb, hgb⟩ : ∃ g, w.heap.size + 1 = g := ⟨_, rfl⟩
  obtain ⟨ga, hga⟩ : ∃ g, w.heap.size = g := ⟨_, rfl⟩
  have HGA := hideIt hga
  have HGB := hideIt hgb
  rw [hgb, hga] at A0
  clear hga hgb
  go_enter Tryd.func62, Tryd.ntmps62
  go_wp2
  rw [HGB.out, HGA.out]
  go_loopw [5] (fun y wr => ∃ i : Nat, y = .int .i64 i ∧ i ≤ nk ∧ Hid (M w ga wr [.blk gb #[.int .i64 er, .bool fd, .int .i64 va, .int .i64 pt, .slice ak' nk ck', .slice av' nv cv0', .slice ac' nc cc'] 76, .blk ga #[.int .i64 er, .bool fd, .int .i64 va, .int .i64 pt, .slice ak nk ck, .slice av nv cv0, .slice ac nc cc] 76])) (fun y _ => nk - (intOf y).toNat)
  case atStart => exact ⟨0, rfl, by omega, A0.out⟩
  case round =>
    clear A0
    obtain ⟨i, rfl, hi, hM⟩ := hrel
    have hi0 : (0 : Int) ≤ (i : Int) := by omega
    have a4 := hM.out.cell (i := 1) rfl 4 (.slice ak nk ck) rfl
    have b4 := hM.out.cell (i := 0) rfl 4 (.slice ak' nk ck') rfl
    have hbl : Below w.heap.size w wr := by have := hM.out.bl; rw [← HGA.out] at this; exact this
    by_cases hlt : i < nk
    · have hi1 : (i : Int) < (nk : Int) := by omega
      obtain ⟨b1, o1, e1, -, x1⟩ := HRK.out.elem i hlt
      subst e1
      obtain ⟨b2, o2, e2, -, x2⟩ := HRK'.out.elem i hlt
      subst e2
      have y1 := x1 _ hbl
      have y2 := x2 _ hbl
      obtain ⟨k, hk⟩ : ∃ y, ks[i]?.getD 0 = y := ⟨_, rfl⟩
      rw [hk] at y1 y2
      have hkk : (k != k) = false := by simp
      clear x1 x2 hk hbl
      have HM2 := hideIt hM.out
      clear hM
      go_wp2
      go_quiet (fail)
      have HM3 := hideIt (HM2.out.drewN nq)
      go_wp2
      go_roundw
      case rel => exact ⟨i + 1, by go_num, by omega, HM3.out⟩
      case measure => simp [intOf]; omega
    · have hin : ¬ ((i : Int) < (nk : Int)) := by omega
      have HM2 := hideIt hM.out
      clear hM hbl
      go_wp2
      go_loopw [6] (fun y wr => ∃ i : Nat, y = .int .i64 i ∧ i ≤ nv ∧ Hid (M w ga wr [.blk gb #[.int .i64 er, .bool fd, .int .i64 va, .int .i64 pt, .slice ak' nk ck', .slice av' nv cv0', .slice ac' nc cc'] 76, .blk ga #[.int .i64 er, .bool fd, .int .i64 va, .int .i64 pt, .slice ak nk ck, .slice av nv cv0, .slice ac nc cc] 76])) (fun y _ => nv - (intOf y).toNat)
      case atStart => exact ⟨0, rfl, by omega, HM2.out⟩
      case round =>
        clear HM2
        obtain ⟨i, rfl, hi, hM⟩ := hrel
        have hi0 : (0 : Int) ≤ (i : Int) := by omega
        have a4 := hM.out.cell (i := 1) rfl 5 (.slice av nv cv0) rfl
        have b4 := hM.out.cell (i := 0) rfl 5 (.slice av' nv cv0') rfl
        have hbl : Below w.heap.size w wr := by have := hM.out.bl; rw [← HGA.out] at this; exact this
        by_cases hlt : i < nv
        · have hi1 : (i : Int) < (nv : Int) := by omega
          obtain ⟨b1, o1, e1, -, x1⟩ := HRV.out.elem i hlt
          subst e1
          obtain ⟨b2, o2, e2, -, x2⟩ := HRV'.out.elem i hlt
          subst e2
          have y1 := x1 _ hbl
          have y2 := x2 _ hbl
          obtain ⟨k, hk⟩ : ∃ y, vs[i]?.getD 0 = y := ⟨_, rfl⟩
          rw [hk] at y1 y2
          have hkk : (k != k) = false := by simp
          clear x1 x2 hk hbl
          have HM2 := hideIt hM.out
          clear hM
          go_wp2
          go_quiet (fail)
          have HM3 := hideIt (HM2.out.drewN nq)
          go_wp2
          go_roundw
          case rel => exact ⟨i + 1, by go_num, by omega, HM3.out⟩
          case measure => simp [intOf]; omega
        · have hin : ¬ ((i : Int) < (nv : Int)) := by omega
          have HM2 := hideIt hM.out
          clear hM hbl
          go_wp2
          go_loopw [7] (fun y wr => ∃ i : Nat, y = .int .i64 i ∧ i ≤ nc ∧ Hid (M w ga wr [.blk gb #[.int .i64 er, .bool fd, .int .i64 va, .int .i64 pt, .slice ak' nk ck', .slice av' nv cv0', .slice ac' nc cc'] 76, .blk ga #[.int .i64 er, .bool fd, .int .i64 va, .int .i64 pt, .slice ak nk ck, .slice av nv cv0, .slice ac nc cc] 76])) (fun y _ => nc - (intOf y).toNat)
          case atStart => exact ⟨0, rfl, by omega, HM2.out⟩
          case round =>
            clear HM2
            obtain ⟨i, rfl, hi, hM⟩ := hrel
            have hi0 : (0 : Int) ≤ (i : Int) := by omega
            have a4 := hM.out.cell (i := 1) rfl 6 (.slice ac nc cc) rfl
            have b4 := hM.out.cell (i := 0) rfl 6 (.slice ac' nc cc') rfl
            have hbl : Below w.heap.size w wr := by have := hM.out.bl; rw [← HGA.out] at this; exact this
            by_cases hlt : i < nc
            · have hi1 : (i : Int) < (nc : Int) := by omega
              obtain ⟨c, hc2⟩ : ∃ c, cs[i]? = some c := ⟨_, List.getElem?_eq_getElem (by rw [HNC.out]; exact hlt)⟩
              obtain ⟨ao1, cap1, e1, k1⟩ := HRC.out
              obtain ⟨b1, e1', k1'⟩ := k1 (by rw [HNC.out]; omega)
              rw [HNC.out] at e1
              cases e1
              subst e1'
              obtain ⟨ao2, cap2, e2, k2⟩ := HRC'.out
              obtain ⟨b2, e2', k2'⟩ := k2 (by rw [HNC.out]; omega)
              rw [HNC.out] at e2
              cases e2
              subst e2'
              obtain ⟨u1, u2⟩ := k1' i c hc2
              obtain ⟨v1, v2⟩ := k2' i c hc2
              have y1 := cell_below hbl _ _ u1
              have y2 := cell_below hbl _ _ u2
              have y3 := cell_below hbl _ _ v1
              have y4 := cell_below hbl _ _ v2
              obtain ⟨c1, c2⟩ := c
              dsimp only at y1 y2 y3 y4
              have hk1 : (c1 != c1) = false := by simp
              have hk2 : (c2 != c2) = false := by simp
              have hk3 : (c1 == c1) = true := by simp
              have hk4 : (c2 == c2) = true := by simp
              clear k1 k1' k2 k2' u1 u2 v1 v2 hc2 hbl
              have HM2 := hideIt hM.out
              clear hM
              go_wp2
              go_quiet (fail)
              have HM3 := hideIt (HM2.out.drewN nq)
              go_wp2
              go_roundw
              case rel => exact ⟨i + 1, by go_num, by omega, HM3.out⟩
              case measure => simp [intOf]; omega
            · have hin : ¬ ((i : Int) < (nc : Int)) := by omega
              have HM2 := hideIt hM.out
              have HB := hideIt hbl
              clear hM hbl
              go_wp2
              go_ret
              exact ⟨rfl, HB.out⟩
end Go.Proofs.YtajobgmnmbnhiaaDoor.Sap
