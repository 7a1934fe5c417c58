/- WHAT IS PROVED HERE: page.rightKeys and page.rightVals answer whether a node's keys and values are right; what a slice of numbers in memory is. Conditions: at most six keys and values, High at most 10000. -/
import Derived.Test.YtajobgmnmbnhiaaGreatDoorPt04
import Derived.Test.YtajobgmnmbnhiaaGreatDoorShelf
import Derived.Deep.QuietTactic
import Derived.BigQuiet
import Derived.Lib.AppendIntMem
import Derived.Lib.SmallJoins
import Derived.Maps.AppendAt
namespace Go.Proofs.YtajobgmnmbnhiaaGreatDoor.Sap
open Go.RowKit
def Rd (w : World) (v : Value) (xs : List Int) : Prop :=
  ∃ ao cap, v = .slice ao xs.length cap ∧ (0 < xs.length → ∃ b off, ao = some ⟨b, off, none⟩ ∧ ∀ j, j < xs.length → w.cell? ⟨b, off + j, none⟩ = some (.int .i64 (xs[j]?.getD 0)))
theorem Rd.kept {w w' : World} {v : Value} {xs : List Int} (h : Rd w v xs) (hc : ∀ a u, w.cell? a = some u → w'.cell? a = some u) : Rd w' v xs := by
  obtain ⟨ao, cap, hv, hr⟩ := h
  refine ⟨ao, cap, hv, fun hp => ?_⟩
  obtain ⟨b, off, ha, hcell⟩ := hr hp
  exact ⟨b, off, ha, fun j hj => hc _ _ (hcell j hj)⟩
theorem cell_below {w w' : World} (hb : Below w.heap.size w w') (a : Addr) (u : Value) (h : w.cell? a = some u) : w'.cell? a = some u :=
  (hb.cell (World.block_lt_of_cell? w a h)).trans h
theorem Rd.below {w w' : World} {v : Value} {xs : List Int} (h : Rd w v xs) (hb : Below w.heap.size w w') : Rd w' v xs := h.kept (cell_below hb)
theorem Rd.alloc {w : World} {v : Value} {xs : List Int} (h : Rd w v xs) (o : Obj) : Rd (w.alloc o) v xs := h.below ((Below.refl _ _).alloc (Nat.le_refl _) o)
theorem drop_cons {xs : List Int} {k : Nat} (h : k < xs.length) : ∃ x, xs.drop k = x :: xs.drop (k + 1) ∧ xs[k]?.getD 0 = x := by
  refine ⟨xs[k], List.drop_eq_getElem_cons h, ?_⟩
  simp [h]
theorem Rd.at {w : World} {v : Value} {xs : List Int} (h : Rd w v xs) (k : Nat) (hk : k < xs.length) : ∃ b off cap, v = .slice (some ⟨b, off, none⟩) xs.length cap ∧ ∃ x, xs.drop k = x :: xs.drop (k + 1) ∧ w.cell? ⟨b, off + k, none⟩ = some (.int .i64 x) := by
  obtain ⟨ao, cap, hv, hr⟩ := h
  obtain ⟨b, off, rfl, hc⟩ := hr (by omega)
  obtain ⟨x, hx, hx2⟩ := drop_cons hk
  exact ⟨b, off, cap, hv, x, hx, by rw [hc k hk, hx2]⟩
theorem keysOk_no (hi l x : Int) (r : List Int) (h : hi ≤ x ∨ x < l) : keysOk hi l (x :: r) = false := by
  unfold keysOk
  rcases h with h | h
  · simp [show ¬ x < hi from by omega]
  · simp [show ¬ l ≤ x from by omega]
theorem keysOk_yes (hi l x : Int) (r : List Int) (h1 : l ≤ x) (h2 : x < hi) : keysOk hi l (x :: r) = keysOk hi (x + 1) r := by
  simp [keysOk, h1, h2]
set_option maxRecDepth 100000 in
set_option maxHeartbeats 800000 in
theorem rightKeys_any (lv lk hi : Int) (ks : List Int) (kv vv : Value) (w : World) (hk : Rd w kv ks) (hhi : hi ≤ 10000) (hl : ks.length ≤ 6) :
    Calls Tryz.prog 54 #[.agg #[.int .i64 lv, .int .i64 lk, .int .i64 hi, kv, vv]] w fun e w' => e = .returned (.bool (keysOk hi (least lv) ks)) ∧ Below w.heap.size w w' := by
  obtain ⟨ao, cap, rfl, hr⟩ := hk
  have HR : Hid (0 < ks.length → ∃ b off, ao = some ⟨b, off, none⟩ ∧ ∀ j, j < ks.length → w.cell? ⟨b, off + j, none⟩ = some (.int .i64 (ks[j]?.getD 0))) := hr
  clear hr
  obtain ⟨l0, hl0, hl1, hl2⟩ : ∃ l0, Hid (least lv = l0) ∧ 0 ≤ l0 ∧ l0 ≤ 1 := ⟨_, rfl, by unfold least; split <;> omega, by unfold least; split <;> omega⟩
  have hT : (lv == 0) = true ∧ Hid (l0 = 1) ∨ (lv == 0) = false ∧ Hid (l0 = 0) := by
    by_cases h : lv = 0
    · exact Or.inl ⟨by simp [h], by have := hl0.out; unfold Hid; simp [least, h] at this; exact this.symm⟩
    · exact Or.inr ⟨by simp [h], by have := hl0.out; unfold Hid; simp [least, h] at this; exact this.symm⟩
  rcases hT with ⟨h1, he⟩ | ⟨h1, he⟩
  all_goals
    go_enter Tryz.func54, Tryz.ntmps54
    go_wp2
    go_loop [3, 4, 5] (fun l i _ => ∃ (k : Nat) (a : Int), k ≤ ks.length ∧ i = .int .i64 k ∧ l = .int .i64 a ∧ 0 ≤ a ∧ a ≤ 10000 ∧ Hid (keysOk hi a (ks.drop k) = keysOk hi l0 ks)) (fun _ i _ => ks.length - (intOf i).toNat)
    case atStart => exact ⟨0, l0, Nat.zero_le _, rfl, by rw [he.out], by omega, by omega, rfl⟩
    case round =>
      obtain ⟨k, a, hk, rfl, rfl, ha0, ha1, hinv⟩ := hrel
      by_cases hlt : k < ks.length
      · obtain ⟨b, off, rfl, hc⟩ := HR.out (by omega)
        obtain ⟨x, hx, hx2⟩ := drop_cons hlt
        have hck : ∀ o, (w.alloc o).cell? ⟨b, off + k, none⟩ = some (.int .i64 x) := fun o => by
          have hcc := hc k hlt
          rw [hx2] at hcc
          exact cell_below ((Below.refl _ _).alloc (Nat.le_refl _) o) _ _ hcc
        have hkk : (0 : Int) ≤ (k : Int) := by omega
        have hkl : (k : Int) < (ks.length : Int) := by omega
        rw [hx] at hinv
        clear hc hx hx2
        by_cases hA : hi ≤ x
        · have hno := keysOk_no hi a x (ks.drop (k + 1)) (Or.inl hA)
          have hfin : Hid (keysOk hi (least lv) ks = false) := by unfold Hid; rw [hl0.out, ← hinv.out, hno]
          clear hno hinv
          go_wp2
          go_ret
          exact ⟨ret_bool hfin.out.symm, (Below.refl _ _).alloc (Nat.le_refl _) _⟩
        · by_cases hB : x < a
          · have hno := keysOk_no hi a x (ks.drop (k + 1)) (Or.inr hB)
            have hfin : Hid (keysOk hi (least lv) ks = false) := by unfold Hid; rw [hl0.out, ← hinv.out, hno]
            clear hno hinv
            go_wp2
            go_ret
            exact ⟨ret_bool hfin.out.symm, (Below.refl _ _).alloc (Nat.le_refl _) _⟩
          · have hyes := keysOk_yes hi a x (ks.drop (k + 1)) (by omega) (by omega)
            have hnext : Hid (keysOk hi (x + 1) (ks.drop (k + 1)) = keysOk hi l0 ks) := by unfold Hid; rw [← hyes, hinv.out]
            clear hyes hinv
            go_wp2
            go_round
            case rel => exact ⟨k + 1, x + 1, by omega, by go_num, by go_num, by omega, by omega, hnext⟩
            case measure => simp [intOf]; omega
      · have hfin : Hid (keysOk hi (least lv) ks = true) := by
          unfold Hid; rw [hl0.out, ← hinv.out, List.drop_of_length_le (by omega)]; rfl
        clear hinv
        go_wp2
        go_ret
        exact ⟨ret_bool hfin.out.symm, (Below.refl _ _).alloc (Nat.le_refl _) _⟩
theorem valsOk_no (lv x : Int) (r : List Int) (h : valOk lv x = false) : valsOk lv (x :: r) = false := by simp [valsOk, h]
theorem valsOk_yes (lv x : Int) (r : List Int) (h : valOk lv x = true) : valsOk lv (x :: r) = valsOk lv r := by simp [valsOk, h]
set_option maxRecDepth 100000 in
set_option maxHeartbeats 800000 in
theorem rightVals_any (lv lk hi : Int) (vs : List Int) (kv vv : Value) (w : World) (hk : Rd w vv vs) (hl : vs.length ≤ 6) :
    Calls Tryz.prog 55 #[.agg #[.int .i64 lv, .int .i64 lk, .int .i64 hi, kv, vv]] w fun e w' => e = .returned (.bool (valsOk lv vs)) ∧ Below w.heap.size w w' := by
  obtain ⟨ao, cap, rfl, hr⟩ := hk
  have HR : Hid (0 < vs.length → ∃ b off, ao = some ⟨b, off, none⟩ ∧ ∀ j, j < vs.length → w.cell? ⟨b, off + j, none⟩ = some (.int .i64 (vs[j]?.getD 0))) := hr
  clear hr
  go_enter Tryz.func55, Tryz.ntmps55
  go_wp2
  go_loop [3] (fun i => ∃ (k : Nat), k ≤ vs.length ∧ i = .int .i64 k ∧ Hid (valsOk lv (vs.drop k) = valsOk lv vs)) (fun i => vs.length - (intOf i).toNat)
  case atStart => exact ⟨0, Nat.zero_le _, rfl, rfl⟩
  case round =>
    obtain ⟨k, hk, rfl, hinv⟩ := hrel
    by_cases hlt : k < vs.length
    · obtain ⟨b, off, rfl, hc⟩ := HR.out (by omega)
      obtain ⟨x, hx, hx2⟩ := drop_cons hlt
      have hck : ∀ o, (w.alloc o).cell? ⟨b, off + k, none⟩ = some (.int .i64 x) := fun o => by
        have hcc := hc k hlt
        rw [hx2] at hcc
        exact cell_below ((Below.refl _ _).alloc (Nat.le_refl _) o) _ _ hcc
      have hkk : (0 : Int) ≤ (k : Int) := by omega
      have hkl : (k : Int) < (vs.length : Int) := by omega
      rw [hx] at hinv
      clear hc hx hx2
      by_cases hV : valOk lv x = true
      · have hnext : Hid (valsOk lv (vs.drop (k + 1)) = valsOk lv vs) := by unfold Hid; rw [← hinv.out, valsOk_yes _ _ _ hV]
        clear hinv
        by_cases h0 : lv = 0
        · have h1 : (lv == 0) = true := by simp [h0]
          have hb : 0 ≤ x ∧ x ≤ 9999 := by simpa [valOk, h0] using hV
          obtain ⟨hb0, hb1⟩ := hb
          clear hV h0
          go_wp2
          go_round
          case rel => exact ⟨k + 1, by omega, by go_num, hnext⟩
          case measure => simp [intOf]; omega
        · have h1 : (lv == 0) = false := by simp [h0]
          have hb : Hid (pageOk x = true) := by unfold Hid; simpa [valOk, h0] using hV
          clear hV h0
          go_wp2_with (go_at_call 75; refine (rightPage_any _ _).mono ?_; rintro e w' ⟨rfl, rfl⟩; rw [hb.out])
          go_round
          case rel => exact ⟨k + 1, by omega, by go_num, hnext⟩
          case measure => simp [intOf]; omega
      · have hV' : valOk lv x = false := by simpa using hV
        have hfin : Hid (valsOk lv vs = false) := by unfold Hid; rw [← hinv.out, valsOk_no _ _ _ hV']
        clear hinv hV
        by_cases h0 : lv = 0
        · have h1 : (lv == 0) = true := by simp [h0]
          have hb : 0 ≤ x → 9999 < x := by simpa [valOk, h0] using hV'
          clear hV' h0
          by_cases hx0 : x < 0
          · clear hb
            go_wp2
            go_ret
            exact ⟨ret_bool hfin.out.symm, (Below.refl _ _).alloc (Nat.le_refl _) _⟩
          · have hb1 : 9999 < x := hb (by omega)
            clear hb
            go_wp2
            go_ret
            exact ⟨ret_bool hfin.out.symm, (Below.refl _ _).alloc (Nat.le_refl _) _⟩
        · have h1 : (lv == 0) = false := by simp [h0]
          have hb : Hid (pageOk x = false) := by unfold Hid; simpa [valOk, h0] using hV'
          clear hV' h0
          go_wp2_with (go_at_call 75; refine (rightPage_any _ _).mono ?_; rintro e w' ⟨rfl, rfl⟩; rw [hb.out])
          go_ret
          exact ⟨ret_bool hfin.out.symm, (Below.refl _ _).alloc (Nat.le_refl _) _⟩
    · have hfin : Hid (valsOk lv vs = true) := by
        unfold Hid; rw [← hinv.out, List.drop_of_length_le (by omega)]; rfl
      clear hinv
      go_wp2
      go_ret
      exact ⟨ret_bool hfin.out.symm, (Below.refl _ _).alloc (Nat.le_refl _) _⟩
theorem step {w W w1 : World} (h0 : Below w.heap.size w W) (hb : Below W.heap.size W w1) : Below w.heap.size w w1 := h0.trans (hb.mono h0.size)
def Box (w : World) (b : Nat) (c0 c1 c2 c3 c4 : Value) : Prop :=
  w.cell? ⟨b, 0, none⟩ = some c0 ∧ w.cell? ⟨b, 1, none⟩ = some c1 ∧ w.cell? ⟨b, 2, none⟩ = some c2 ∧ w.cell? ⟨b, 3, none⟩ = some c3 ∧ w.cell? ⟨b, 4, none⟩ = some c4
theorem Box.kept {w w' : World} {b : Nat} {c0 c1 c2 c3 c4 : Value} (h : Box w b c0 c1 c2 c3 c4) (hc : ∀ a u, w.cell? a = some u → w'.cell? a = some u) : Box w' b c0 c1 c2 c3 c4 :=
  ⟨hc _ _ h.1, hc _ _ h.2.1, hc _ _ h.2.2.1, hc _ _ h.2.2.2.1, hc _ _ h.2.2.2.2⟩
theorem Box.below {w w' : World} {b : Nat} {c0 c1 c2 c3 c4 : Value} (h : Box w b c0 c1 c2 c3 c4) (hb : Below w.heap.size w w') : Box w' b c0 c1 c2 c3 c4 := h.kept (cell_below hb)
theorem Box.new (w : World) (c0 c1 c2 c3 c4 : Value) (t : TypeId) : Box (w.alloc (.cells #[c0, c1, c2, c3, c4] t)) w.heap.size c0 c1 c2 c3 c4 := by
  have h := fun j => cell_of_row (w.alloc (.cells #[c0, c1, c2, c3, c4] t)) w.heap.size j _ t (0, 0) (heap_alloc_new w _)
  exact ⟨by rw [h]; rfl, by rw [h]; rfl, by rw [h]; rfl, by rw [h]; rfl, by rw [h]; rfl⟩
theorem Rd.len {w : World} {v : Value} {xs : List Int} (h : Rd w v xs) : ∃ ao cap, v = .slice ao xs.length cap := by
  obtain ⟨ao, cap, hv, _⟩ := h; exact ⟨ao, cap, hv⟩
set_option maxRecDepth 100000 in
set_option maxHeartbeats 800000 in
theorem right_any (n : Nd) (kv vv : Value) (w : World) (hk : Rd w kv n.ks) (hv : Rd w vv n.vs) (hkl : n.ks.length ≤ 17592186044416) (hvl : n.vs.length ≤ 17592186044416) :
    Calls Tryz.prog 36 #[.agg #[.int .i64 n.lv, .int .i64 n.lk, .int .i64 n.hi, kv, vv]] w fun e w' => e = .returned (.bool (rightB n)) ∧ Below w.heap.size w w' := by
  obtain ⟨lv, lk, hi, ks, vs⟩ := n
  simp only at hk hv hkl hvl ⊢
  have HK : Hid (Rd w kv ks) := hk
  have HV : Hid (Rd w vv vs) := hv
  obtain ⟨ak, ck, rfl⟩ := hk.len
  obtain ⟨av, cv, rfl⟩ := hv.len
  clear hk hv
  by_cases h1 : lv < 0
  · have hfin : Hid (rightB ⟨lv, lk, hi, ks, vs⟩ = false) := by unfold Hid; simp [rightB]; omega
    go_enter Tryz.func36, Tryz.ntmps36
    go_wp2
    go_ret
    exact ⟨ret_bool hfin.out.symm, (Below.refl _ _).alloc (Nat.le_refl _) _⟩
  by_cases h2 : 9 < lv
  · have hfin : Hid (rightB ⟨lv, lk, hi, ks, vs⟩ = false) := by unfold Hid; simp [rightB]; omega
    go_enter Tryz.func36, Tryz.ntmps36
    go_wp2
    go_ret
    exact ⟨ret_bool hfin.out.symm, (Below.refl _ _).alloc (Nat.le_refl _) _⟩
  by_cases h3 : endOk lk hi = false
  · have hfin : Hid (rightB ⟨lv, lk, hi, ks, vs⟩ = false) := by unfold Hid; simp [rightB, h3]
    have H3 : Hid (endOk lk hi = false) := h3
    clear h3
    go_enter Tryz.func36, Tryz.ntmps36
    go_wp2_with (go_at_call 52; refine (rightEnd_any _ _ _).mono ?_; rintro e w' ⟨rfl, rfl⟩; rw [H3.out])
    go_ret
    exact ⟨ret_bool hfin.out.symm, (Below.refl _ _).alloc (Nat.le_refl _) _⟩
  have h3' : endOk lk hi = true := by simpa using h3
  have H3 : Hid (endOk lk hi = true) := h3'
  have hhi : hi ≤ 10000 := by
    unfold endOk at h3'; split at h3'
    · omega
    · simp at h3'; omega
  by_cases h4 : ks.length = vs.length
  rotate_left
  · have hfin : Hid (rightB ⟨lv, lk, hi, ks, vs⟩ = false) := by unfold Hid; simp [rightB, h4]
    rcases Nat.lt_or_gt_of_ne h4 with h4a | h4a
    all_goals
      have h4b : Hid (ks.length ≠ vs.length) := h4
      clear h3 h3' h4
      go_enter Tryz.func36, Tryz.ntmps36
      go_wp2_with (go_at_call 52; refine (rightEnd_any _ _ _).mono ?_; rintro e w' ⟨rfl, rfl⟩; rw [H3.out])
      go_ret
      exact ⟨ret_bool hfin.out.symm, (Below.refl _ _).alloc (Nat.le_refl _) _⟩
  by_cases h5 : cntOk lv ks.length = false
  · have hfin : Hid (rightB ⟨lv, lk, hi, ks, vs⟩ = false) := by unfold Hid; simp [rightB, h5]
    obtain ⟨m, hm1, hm2⟩ : ∃ m, ks.length = m ∧ vs.length = m := ⟨_, rfl, h4.symm⟩
    rw [hm1] at HK hkl h5 ⊢
    rw [hm2] at HV hvl ⊢
    have H5 : Hid (cntOk lv m = false) := h5
    clear h3 h3' h4 h5 hm1 hm2
    go_enter Tryz.func36, Tryz.ntmps36
    go_wp2_with (first | (go_at_call 52; refine (rightEnd_any _ _ _).mono ?_; rintro e w' ⟨rfl, rfl⟩; rw [H3.out]) | (go_at_call 53; refine (rightCount_any _ _ _).mono ?_; rintro e w' ⟨rfl, rfl⟩; rw [H5.out]))
    go_ret
    exact ⟨ret_bool hfin.out.symm, (Below.refl _ _).alloc (Nat.le_refl _) _⟩
  have h5' : cntOk lv ks.length = true := by simpa using h5
  have hk6 : ks.length ≤ 6 := by
    unfold cntOk at h5'; split at h5'
    · simp at h5'; omega
    · simp at h5'; omega
  have hR : Hid (rightB ⟨lv, lk, hi, ks, vs⟩ = (keysOk hi (least lv) ks && valsOk lv vs)) := by
    unfold Hid rightB; simp only [h3', h4, decide_true, Bool.true_and]
    rw [← h4, h5', decide_eq_true (show 0 ≤ lv by omega), decide_eq_true (show lv ≤ 9 by omega)]; rfl
  obtain ⟨m, hm1, hm2⟩ : ∃ m, ks.length = m ∧ vs.length = m := ⟨_, rfl, h4.symm⟩
  have Hk6 : Hid (ks.length ≤ 6) := hk6
  have Hv6 : Hid (vs.length ≤ 6) := by unfold Hid; omega
  rw [hm1] at HK hkl h5'
  rw [hm2] at HV hvl
  rw [hm1, hm2]
  have H5 : Hid (cntOk lv m = true) := h5'
  clear h3 h3' h4 h5 h5' hm1 hm2 hk6
  by_cases h6 : keysOk hi (least lv) ks = false
  · have H6 : Hid (keysOk hi (least lv) ks = false) := h6
    clear h6
    go_enter Tryz.func36, Tryz.ntmps36
    go_wp2_with (first | (go_at_call 52; refine (rightEnd_any _ _ _).mono ?_; rintro e w' ⟨rfl, rfl⟩; rw [H3.out]) | (go_at_call 53; refine (rightCount_any _ _ _).mono ?_; rintro e w' ⟨rfl, rfl⟩; rw [H5.out]) | (go_at_call 54; refine (rightKeys_any lv lk hi ks _ _ _ (by exact HK.out.alloc _) hhi Hk6.out).mono ?_; rintro e w' ⟨rfl, hb⟩; rw [H6.out]))
    go_ret
    exact ⟨ret_bool (by rw [hR.out, H6.out]; rfl), step ((Below.refl _ _).alloc (Nat.le_refl _) _) hb⟩
  · have H6 : Hid (keysOk hi (least lv) ks = true) := by unfold Hid; simpa using h6
    clear h6
    go_enter Tryz.func36, Tryz.ntmps36
    go_wp2_with (first | (go_at_call 52; refine (rightEnd_any _ _ _).mono ?_; rintro e w' ⟨rfl, rfl⟩; rw [H3.out]) | (go_at_call 53; refine (rightCount_any _ _ _).mono ?_; rintro e w' ⟨rfl, rfl⟩; rw [H5.out]) | (go_at_call 54; refine (rightKeys_any lv lk hi ks _ _ _ (by exact HK.out.alloc _) hhi Hk6.out).mono ?_; rintro e w1 ⟨rfl, hb⟩; rw [H6.out]; obtain ⟨q0, q1, q2, q3, q4⟩ := (Box.new w (.int .i64 lv) (.int .i64 lk) (.int .i64 hi) (.slice ak m ck) (.slice av m cv) 67).below hb; have hb1 := step ((Below.refl _ _).alloc (Nat.le_refl _) _) hb; clear hb) | (go_at_call 55; refine (rightVals_any lv lk hi vs _ _ _ (by exact HV.out.below hb1) Hv6.out).mono ?_; rintro e w2 ⟨rfl, hb⟩))
    go_ret
    exact ⟨ret_bool (by rw [hR.out, H6.out]; rfl), step hb1 hb⟩
def Tab (w : World) : Prop := Lib.TabIs Tryz.prog w "internal/strconv.uint64pow10" .u64 Lib.pow10Tab
theorem gPow : Tryz.prog.globalNamed "internal/strconv.uint64pow10" = some 0 := by kernel_rfl
theorem Tab.below {w w' : World} (h : Tab w) (hb : Below w.heap.size w w') : Tab w' := Go.Joins.tab_stays gPow h hb (Nat.le_refl _)
theorem Tab.alloc {w : World} (h : Tab w) (o : Obj) : Tab (w.alloc o) := h.below ((Below.refl _ _).alloc (Nat.le_refl _) o)
theorem decDigits_small (n : Nat) (h : n < 10) : Lib.decDigits n = [UInt8.ofNat (48 + n)] := by rw [Lib.decDigits, dif_pos h]
theorem decDigits_big (n : Nat) (h : ¬ n < 10) : Lib.decDigits n = Lib.decDigits (n / 10) ++ [UInt8.ofNat (48 + n % 10)] := by rw [Lib.decDigits, dif_neg h]
theorem dg_zero (w : Nat) : dg w 0 = List.replicate w 48 := by
  induction w with
  | zero => rfl
  | succ w ih => simp only [dg, Nat.zero_div, Nat.zero_mod, ih]; rw [List.replicate_succ']; rfl
theorem pad_dg (w n : Nat) (hw : 1 ≤ w) (h : n < 10 ^ w) : (Lib.decDigits n).length ≤ w ∧ List.replicate (w - (Lib.decDigits n).length) 48 ++ Lib.decDigits n = dg w n := by
  induction w generalizing n with
  | zero => omega
  | succ w ih =>
    by_cases hn : n < 10
    · rw [decDigits_small n hn]
      refine ⟨by simp, ?_⟩
      simp only [dg, Nat.div_eq_of_lt hn, Nat.mod_eq_of_lt hn, dg_zero]
      simp
    · have hw1 : 1 ≤ w := by
        rcases Nat.eq_zero_or_pos w with h0 | h0
        · subst h0; simp at h; omega
        · exact h0
      have h2 : n / 10 < 10 ^ w := by rw [Nat.div_lt_iff_lt_mul (by decide)]; rw [Nat.pow_succ] at h; omega
      obtain ⟨i1, i2⟩ := ih (n / 10) hw1 h2
      rw [decDigits_big n hn]
      refine ⟨by simp; omega, ?_⟩
      simp only [dg, ← i2, List.length_append, List.length_cons, List.length_nil, List.append_assoc]
      congr 2
      omega
def lenOf : Value → Nat | .string b => b.size | _ => 0
theorem itoa_nat (n : Int) (h0 : 0 ≤ n) : Lib.itoa n = Lib.decDigits n.toNat := by unfold Lib.itoa; rw [if_neg (by omega)]
theorem pow_le4 (k : Nat) (h : k ≤ 4) : 10 ^ k ≤ 10000 := by
  have h2 : 10 ^ k ≤ 10 ^ 4 := Nat.pow_le_pow_right (by decide) h
  omega
theorem pad_step {b : ByteArray} {d : List UInt8} (h : ∃ j, b.data.toList = List.replicate j 48 ++ d ∧ j + d.length = b.size) :
    ∃ j, (ByteArray.mk #[48] ++ b).data.toList = List.replicate j 48 ++ d ∧ j + d.length = (ByteArray.mk #[48] ++ b).size := by
  obtain ⟨j, h1, h2⟩ := h
  refine ⟨j + 1, ?_, ?_⟩
  · rw [ba_append, h1, List.replicate_succ]; rfl
  · rw [ByteArray.size_append, ← h2]; show j + 1 + d.length = 1 + (j + d.length); omega
set_option maxRecDepth 100000 in
set_option maxHeartbeats 800000 in
theorem digits_any (n wi : Int) (w : World) (htab : Tab w) (h0 : 0 ≤ n) (hw1 : 1 ≤ wi) (hw4 : wi ≤ 4) (hn : n.toNat < 10 ^ wi.toNat) :
    Calls Tryz.prog 39 #[.int .i64 n, .int .i64 wi] w fun e w' => ∃ b, e = .returned (.string b) ∧ b.data.toList = dg wi.toNat n.toNat ∧ b.size = wi.toNat ∧ Below w.heap.size w w' := by
  have hb4 := pow_le4 wi.toNat (by omega)
  have hp := pad_dg wi.toNat n.toNat (by omega) hn
  have HP : Hid ((Lib.decDigits n.toNat).length ≤ wi.toNat ∧ List.replicate (wi.toNat - (Lib.decDigits n.toNat).length) 48 ++ Lib.decDigits n.toNat = dg wi.toNat n.toNat) := hp
  have HI : Hid (Lib.itoa n = Lib.decDigits n.toNat) := itoa_nat n h0
  have hn4 : n < 10000 := by omega
  clear hp hn hb4
  go_enter Tryz.func39, Tryz.ntmps39
  go_wp2_with (go_at_call 56; refine (Tryz.strconv_Itoa n (by omega) (by omega) _ htab).mono ?_; rintro e w1 ⟨rfl, kk, os, hw⟩; have hb := hw ▸ Lib.below_grow w.heap.size w (Nat.le_refl _) kk os; clear hw; obtain ⟨b0, hb0⟩ : ∃ b0, b0 = (ByteArray.mk (Lib.itoa n).toArray) := ⟨_, rfl⟩; rw [← hb0]; have HB0 : Hid (b0.data.toList = Lib.decDigits n.toNat) := (by unfold Hid; rw [hb0, HI.out]); clear hb0)
  have hsz0 : b0.size = (Lib.decDigits n.toNat).length := by rw [← HB0.out, ba_size]
  have hle0 : (b0.size : Int) ≤ wi := by have := HP.out.1; omega
  have HS0 : Hid (b0.size = (Lib.decDigits n.toNat).length) := hsz0
  clear hsz0
  go_loop [5] (fun t => ∃ b : ByteArray, t = .string b ∧ (b.size : Int) ≤ wi ∧ Hid (∃ j, b.data.toList = List.replicate j 48 ++ Lib.decDigits n.toNat ∧ j + (Lib.decDigits n.toNat).length = b.size)) (fun t => wi.toNat - lenOf t)
  case atStart => exact ⟨b0, rfl, hle0, ⟨0, by rw [HB0.out]; rfl, by rw [HS0.out]; omega⟩⟩
  case round =>
    obtain ⟨b, rfl, hle, hinv⟩ := hrel
    by_cases hlt : (b.size : Int) < wi
    · go_wp2
      go_round
      case rel => exact ⟨_, rfl, by rw [ByteArray.size_append]; show ((1 + b.size : Nat) : Int) ≤ wi; omega, pad_step hinv.out⟩
      case measure => simp only [lenOf]; rw [ByteArray.size_append]; show wi.toNat - (1 + b.size) < _; omega
    · go_wp2
      go_ret
      refine ⟨b, rfl, ?_, by omega, hb⟩
      obtain ⟨j, h1, h2⟩ := hinv.out
      obtain ⟨i1, i2⟩ := HP.out
      rw [h1, ← i2]
      congr 2
      omega
theorem keys_bd (hi l : Int) (ks : List Int) (h : keysOk hi l ks = true) (hl : 0 ≤ l) (hh : hi ≤ 10000) : ∀ k ∈ ks, 0 ≤ k ∧ k ≤ 9999 := by
  induction ks generalizing l with
  | nil => intro k hk; cases hk
  | cons x r ih =>
    simp only [keysOk, Bool.and_eq_true, decide_eq_true_eq] at h
    intro k hk
    rcases List.mem_cons.1 hk with rfl | hk
    · omega
    · exact ih (x + 1) h.2.2 (by omega) k hk
theorem vals_bd (lv : Int) (vs : List Int) (h : valsOk lv vs = true) : ∀ v ∈ vs, valOk lv v = true := by
  induction vs with
  | nil => intro k hk; cases hk
  | cons x r ih =>
    simp only [valsOk, Bool.and_eq_true] at h
    intro k hk
    rcases List.mem_cons.1 hk with rfl | hk
    · exact h.1
    · exact ih h.2 k hk
theorem val_bd (lv v : Int) (h : valOk lv v = true) : 0 ≤ v ∧ v.toNat < 10 ^ vw lv := by
  unfold valOk at h
  unfold vw
  split at h
  · rename_i h0; simp [h0]; simp at h; omega
  · rename_i h0; simp [h0]; simp [pageOk] at h; omega
theorem right_bd (n : Nd) (h : rightB n = true) : 0 ≤ n.lv ∧ n.lv ≤ 9 ∧ ((n.hi = 10000 ∧ n.lk = -1) ∨ (1 ≤ n.hi ∧ n.hi ≤ 9999 ∧ 1 ≤ n.lk ∧ n.lk ≤ 63)) ∧ n.ks.length = n.vs.length ∧ n.ks.length ≤ 6 ∧ (n.lv = 0 → n.ks.length ≤ 5) ∧ (∀ k ∈ n.ks, 0 ≤ k ∧ k ≤ 9999) ∧ (∀ v ∈ n.vs, 0 ≤ v ∧ v.toNat < 10 ^ vw n.lv) := by
  unfold rightB at h
  simp only [Bool.and_eq_true, decide_eq_true_eq] at h
  obtain ⟨h1, h2, h3, h4, h5, h6, h7⟩ := h
  have hE : (n.hi = 10000 ∧ n.lk = -1) ∨ (1 ≤ n.hi ∧ n.hi ≤ 9999 ∧ 1 ≤ n.lk ∧ n.lk ≤ 63) := by
    unfold endOk at h3
    split at h3
    · rename_i e; exact Or.inl ⟨e, by simpa using h3⟩
    · simp [pageOk] at h3; right; omega
  have hC : n.ks.length ≤ 6 ∧ (n.lv = 0 → n.ks.length ≤ 5) := by
    unfold cntOk at h5
    split at h5
    · simp at h5; omega
    · simp at h5; omega
  refine ⟨h1, h2, hE, h4, hC.1, hC.2, keys_bd _ _ _ h6 (by unfold least; split <;> omega) (by omega), fun v hv => val_bd _ _ (vals_bd _ _ h7 v hv)⟩
theorem pow1 : (10 : Nat) ^ (1 : Int).toNat = 10 := rfl
theorem pow2 : (10 : Nat) ^ (2 : Int).toNat = 100 := rfl
theorem pow4 : (10 : Nat) ^ (4 : Int).toNat = 10000 := rfl
set_option maxRecDepth 100000 in
set_option maxHeartbeats 800000 in
theorem headText_any (n : Nd) (kv vv : Value) (w : World) (htab : Tab w) (h : rightB n = true) :
    Calls Tryz.prog 37 #[.agg #[.int .i64 n.lv, .int .i64 n.lk, .int .i64 n.hi, kv, vv]] w fun e w' => ∃ b, e = .returned (.string b) ∧ b.data.toList = headT n ∧ b.size = 7 ∧ Below w.heap.size w w' := by
  obtain ⟨h1, h2, h3, -⟩ := right_bd n h
  clear h
  obtain ⟨lv, lk, hi, ks, vs⟩ := n
  simp only at h1 h2 h3 ⊢
  have HT : Hid (Tab w) := htab
  clear htab
  rcases h3 with ⟨h3, h4⟩ | ⟨h3, h4, h5, h6⟩
  · have H3 : Hid (hi = 10000) := h3
    have h3' : (hi == 10000) = true := by simp [h3]
    clear h3 h4
    go_enter Tryz.func37, Tryz.ntmps37
    go_wp2_with fail
    refine (digits_any lv 1 _ (HT.out.alloc _) (by omega) (by omega) (by omega) (by rw [pow1]; omega)).mono ?_
    rintro e w1 ⟨b1, rfl, hd1, hs1, hb⟩
    obtain ⟨q0, q1, q2, q3, q4⟩ := (Box.new w (.int .i64 lv) (.int .i64 lk) (.int .i64 hi) kv vv 67).below hb
    have hb1 := step ((Below.refl _ _).alloc (Nat.le_refl _) _) hb
    clear hb
    have hz1 : b1.size ≤ 1 := by rw [hs1]; decide
    have HS1 : Hid (b1.size = 1) := hs1
    have HD1 : Hid (b1.data.toList = dg 1 lv.toNat) := hd1
    clear hs1 hd1
    go_wp2
    go_ret
    refine ⟨_, rfl, ?_, ?_, hb1⟩
    · rw [ba_append, ba_append, HD1.out]; unfold headT; simp only [H3.out, if_true]; rw [List.append_assoc]; rfl
    · rw [ByteArray.size_append, ByteArray.size_append, HS1.out]; rfl
  · have H3 : Hid (¬ hi = 10000) := by unfold Hid; omega
    have h3' : (hi == 10000) = false := by simp; omega
    go_enter Tryz.func37, Tryz.ntmps37
    go_wp2_with fail
    refine (digits_any lv 1 _ (HT.out.alloc _) (by omega) (by omega) (by omega) (by rw [pow1]; omega)).mono ?_
    rintro e w1 ⟨b1, rfl, hd1, hs1, hb⟩
    have B1 := (Box.new w (.int .i64 lv) (.int .i64 lk) (.int .i64 hi) kv vv 67).below hb
    obtain ⟨q0, q1, q2, q3, q4⟩ := B1
    have hb1 := step ((Below.refl _ _).alloc (Nat.le_refl _) _) hb
    clear hb
    have hz1 : b1.size ≤ 1 := by rw [hs1]; decide
    have HS1 : Hid (b1.size = 1) := hs1
    have HD1 : Hid (b1.data.toList = dg 1 lv.toNat) := hd1
    clear hs1 hd1
    go_wp2_with fail
    refine (digits_any lk 2 _ (HT.out.below hb1) (by omega) (by omega) (by omega) (by rw [pow2]; omega)).mono ?_
    rintro e w2 ⟨b2, rfl, hd2, hs2, hb⟩
    have B2 := Box.below ⟨q0, q1, q2, q3, q4⟩ hb
    clear q0 q1 q2 q3 q4
    obtain ⟨q0, q1, q2, q3, q4⟩ := B2
    have hb2 := step hb1 hb
    clear hb hb1
    have hz2 : b2.size ≤ 2 := by rw [hs2]; decide
    have HS2 : Hid (b2.size = 2) := hs2
    have HD2 : Hid (b2.data.toList = dg 2 lk.toNat) := hd2
    clear hs2 hd2
    go_wp2_with fail
    refine (digits_any hi 4 _ (HT.out.below hb2) (by omega) (by omega) (by omega) (by rw [pow4]; omega)).mono ?_
    rintro e w3 ⟨b3, rfl, hd3, hs3, hb⟩
    have hb3 := step hb2 hb
    clear hb hb2
    have hz3 : b3.size ≤ 4 := by rw [hs3]; decide
    have HS3 : Hid (b3.size = 4) := hs3
    have HD3 : Hid (b3.data.toList = dg 4 hi.toNat) := hd3
    clear hs3 hd3
    go_wp2
    go_ret
    refine ⟨_, rfl, ?_, ?_, hb3⟩
    · rw [ba_append, ba_append, HD1.out, HD2.out, HD3.out]; unfold headT; simp only [H3.out, if_false]; rw [List.append_assoc]
    · rw [ByteArray.size_append, ByteArray.size_append, HS1.out, HS2.out, HS3.out]
theorem hideIt {p : Prop} (h : p) : Hid p := h
def Pk (n : Nd) (b : ByteArray) (er : Int) : Prop := if rightB n then b.data.toList = packT n ∧ er = 0 else b.data.toList = [] ∧ er = 1
theorem ents_snoc (lv : Int) (ks vs : List Int) (k : Nat) (hk : k < ks.length) (hv : k < vs.length) :
    ents lv (ks.take (k + 1)) (vs.take (k + 1)) = ents lv (ks.take k) (vs.take k) ++ (dg 4 (ks[k]?.getD 0).toNat ++ dg (vw lv) (vs[k]?.getD 0).toNat) := by
  induction k generalizing ks vs with
  | zero =>
    cases ks with
    | nil => simp at hk
    | cons x ks =>
      cases vs with
      | nil => simp at hv
      | cons y vs => simp [ents]
  | succ k ih =>
    cases ks with
    | nil => simp at hk
    | cons x ks =>
      cases vs with
      | nil => simp at hv
      | cons y vs =>
        have := ih ks vs (by simpa using hk) (by simpa using hv)
        simp only [List.take_succ_cons, ents, this, List.append_assoc]
        simp
theorem vw_bd (lv : Int) : 1 ≤ (vw lv : Int) ∧ (vw lv : Int) ≤ 4 := by unfold vw; split <;> decide
theorem mem_at {xs : List Int} {k : Nat} (h : k < xs.length) : xs[k]?.getD 0 ∈ xs := by simp [h]
theorem Rd.elem {w : World} {ao : Option Addr} {m cap : Nat} {xs : List Int} (h : Rd w (.slice ao m cap) xs) (k : Nat) (hk : k < m) :
    ∃ b off, ao = some ⟨b, off, none⟩ ∧ k < xs.length ∧ ∀ w', Below w.heap.size w w' → w'.cell? ⟨b, off + k, none⟩ = some (.int .i64 (xs[k]?.getD 0)) := by
  obtain ⟨ao', cap', hv, hr⟩ := h
  simp only [Value.slice.injEq] at hv
  obtain ⟨rfl, rfl, rfl⟩ := hv
  obtain ⟨b, off, rfl, hc⟩ := hr (by omega)
  exact ⟨b, off, rfl, hk, fun w' hb => cell_below hb _ _ (hc k hk)⟩
set_option maxRecDepth 100000 in
set_option maxHeartbeats 800000 in
theorem pack_any (n : Nd) (kv vv : Value) (w : World) (htab : Tab w) (hk : Rd w kv n.ks) (hv : Rd w vv n.vs) (hkl : n.ks.length ≤ 17592186044416) (hvl : n.vs.length ≤ 17592186044416) :
    Calls Tryz.prog 24 #[.agg #[.int .i64 n.lv, .int .i64 n.lk, .int .i64 n.hi, kv, vv]] w fun e w' => ∃ b er, e = .returned (.tuple #[.string b, .int .i64 er]) ∧ Pk n b er ∧ b.size ≤ 55 ∧ Below w.heap.size w w' := by
  have HK : Hid (Rd w kv n.ks) := hk
  have HV : Hid (Rd w vv n.vs) := hv
  obtain ⟨ak, ck, rfl⟩ := hk.len
  obtain ⟨av, cv, rfl⟩ := hv.len
  have HT : Hid (Tab w) := htab
  clear hk hv htab
  by_cases hr : rightB n = true
  rotate_left
  · have HR : Hid (rightB n = false) := by unfold Hid; simpa using hr
    clear hr
    go_enter Tryz.func24, Tryz.ntmps24
    go_wp2_with fail
    refine (right_any n _ _ _ (by exact HK.out.alloc _) (by exact HV.out.alloc _) hkl hvl).mono ?_
    rintro e w1 ⟨rfl, hb⟩
    rw [HR.out]
    have hb1 := step ((Below.refl _ _).alloc (Nat.le_refl _) _) hb
    clear hb
    go_wp2
    go_ret2
    exact ⟨_, _, rfl, by unfold Pk; rw [HR.out]; exact ⟨rfl, rfl⟩, by decide, hb1⟩
  · have HR : Hid (rightB n = true) := hr
    obtain ⟨c1, c2, c3, c4, c5, c6, c7, c8⟩ := right_bd n hr
    clear hr
    obtain ⟨m, hm1, hm2⟩ : ∃ m, n.ks.length = m ∧ n.vs.length = m := ⟨_, rfl, c4.symm⟩
    have Hm1 : Hid (n.ks.length = m) := hm1
    have Hm2 : Hid (n.vs.length = m) := hm2
    have C3 := Hid.out (p := (n.hi = 10000 ∧ n.lk = -1) ∨ (1 ≤ n.hi ∧ n.hi ≤ 9999 ∧ 1 ≤ n.lk ∧ n.lk ≤ 63)) c3
    have C7 : Hid (∀ k ∈ n.ks, 0 ≤ k ∧ k ≤ 9999) := c7
    have C8 : Hid (∀ v ∈ n.vs, 0 ≤ v ∧ v.toNat < 10 ^ vw n.lv) := c8
    have hm6 : m ≤ 6 := by omega
    rw [hm1] at HK
    rw [hm2] at HV
    rw [hm1, hm2]
    have hvw := vw_bd n.lv
    have hvw1 := hvw.1
    have hvw4 := hvw.2
    clear hm1 hm2 c3 c4 c5 c6 c7 c8 C3 hkl hvl hvw
    go_enter Tryz.func24, Tryz.ntmps24
    go_wp2_with fail
    refine (right_any n _ _ _ (by exact HK.out.alloc _) (by exact HV.out.alloc _) (by rw [Hm1.out]; omega) (by rw [Hm2.out]; omega)).mono ?_
    rintro e w1 ⟨rfl, hb⟩
    rw [HR.out]
    have B1 := (Box.new w (.int .i64 n.lv) (.int .i64 n.lk) (.int .i64 n.hi) (.slice ak m ck) (.slice av m cv) 67).below hb
    obtain ⟨q0, q1, q2, q3, q4⟩ := B1
    have hb1 := step ((Below.refl _ _).alloc (Nat.le_refl _) _) hb
    have hz1 := hb.size
    clear hb
    go_wp2_with fail
    refine (headText_any n _ _ _ (HT.out.below hb1) HR.out).mono ?_
    rintro e w2 ⟨b0, rfl, hd0, hs0, hb⟩
    have B2 := Box.below ⟨q0, q1, q2, q3, q4⟩ hb
    clear q0 q1 q2 q3 q4
    obtain ⟨q0, q1, q2, q3, q4⟩ := B2
    have hb2 := step hb1 hb
    clear hb hb1 hz1
    have HD0 : Hid (b0.data.toList = headT n) := hd0
    have HS0 : Hid (b0.size = 7) := hs0
    clear hd0 hs0
    go_wp2_with fail
    refine (valWidth_any n.lv _).mono ?_
    rintro e w3 ⟨rfl, rfl⟩
    go_wp2_with fail
    go_loopw [4, 6] (fun t i wr => ∃ (k : Nat) (b : ByteArray), k ≤ m ∧ i = .int .i64 k ∧ t = .string b ∧ b.size ≤ 7 + 8 * k ∧ Hid (b.data.toList = headT n ++ ents n.lv (n.ks.take k) (n.vs.take k)) ∧ Below w.heap.size w wr ∧ Box wr w.heap.size (.int .i64 n.lv) (.int .i64 n.lk) (.int .i64 n.hi) (.slice ak m ck) (.slice av m cv)) (fun _ i _ => m - (intOf i).toNat)
    case atStart => exact ⟨0, b0, Nat.zero_le _, rfl, rfl, by rw [HS0.out]; decide, by unfold Hid; rw [HD0.out]; simp [ents], hb2, q0, q1, q2, q3, q4⟩
    case round =>
      clear q0 q1 q2 q3 q4 hb2 HD0 HS0
      obtain ⟨k, b, hk, rfl, rfl, hbs, hbt, hbw, q0, q1, q2, q3, q4⟩ := hrel
      by_cases hlt : k < m
      · obtain ⟨bk, ok, rfl, hk1, hck⟩ := HK.out.elem k hlt
        obtain ⟨bv, ov, rfl, hv1, hcv⟩ := HV.out.elem k hlt
        have HCK := hideIt hck
        have HCV := hideIt hcv
        have xk := C7.out _ (mem_at hk1)
        have xv := C8.out _ (mem_at hv1)
        have hsn : Hid (ents n.lv (n.ks.take (k + 1)) (n.vs.take (k + 1)) = ents n.lv (n.ks.take k) (n.vs.take k) ++ (dg 4 (n.ks[k]?.getD 0).toNat ++ dg (vw n.lv) (n.vs[k]?.getD 0).toNat)) := ents_snoc n.lv n.ks n.vs k hk1 hv1
        have ck1 := hck _ hbw
        have cv1 := hcv _ hbw
        clear hck hcv hk1 hv1
        obtain ⟨x, hx⟩ : ∃ x, n.ks[k]?.getD 0 = x := ⟨_, rfl⟩
        obtain ⟨y, hy⟩ : ∃ y, n.vs[k]?.getD 0 = y := ⟨_, rfl⟩
        rw [hx] at ck1 xk hsn HCK
        rw [hy] at cv1 xv hsn HCV
        clear hx hy
        obtain ⟨x0, x1⟩ := xk
        have y0 := xv.1
        have Y1 : Hid (y.toNat < 10 ^ vw n.lv) := xv.2
        clear xv
        have hkk : (0 : Int) ≤ (k : Int) := by omega
        have hkl : (k : Int) < (m : Int) := by omega
        go_wp2_with fail
        refine (digits_any x 4 _ (HT.out.below hbw) (by omega) (by omega) (by omega) (by rw [pow4]; omega)).mono ?_
        rintro e w4 ⟨b1, rfl, hd1, hs1, hb⟩
        have B2 := Box.below ⟨q0, q1, q2, q3, q4⟩ hb
        clear q0 q1 q2 q3 q4 ck1 cv1
        obtain ⟨q0, q1, q2, q3, q4⟩ := B2
        have hb4 := step hbw hb
        clear hb
        have cv1 := HCV.out _ hb4
        have hz1 : b1.size ≤ 4 := by rw [hs1]; decide
        have HD1 : Hid (b1.data.toList = dg 4 x.toNat) := hd1
        clear hs1 hd1
        go_wp2_with fail
        refine (digits_any y (vw n.lv) _ (HT.out.below hb4) (by omega) (by omega) (by omega) (by simpa using Y1.out)).mono ?_
        rintro e w5 ⟨b2, rfl, hd2, hs2, hb⟩
        have B2 := Box.below ⟨q0, q1, q2, q3, q4⟩ hb
        clear q0 q1 q2 q3 q4 cv1
        have hb5 := step hb4 hb
        clear hb
        have hz2 : b2.size ≤ 4 := by rw [hs2]; omega
        have HD2 : Hid (b2.data.toList = dg (vw n.lv) y.toNat) := by simpa [Hid] using hd2
        clear hs2 hd2
        go_wp2
        go_roundw
        case rel =>
          refine ⟨k + 1, _, by omega, by go_num, rfl, ?_, ?_, hb5, B2⟩
          · rw [ByteArray.size_append, ByteArray.size_append]; omega
          · unfold Hid; rw [ba_append, ba_append, hbt.out, HD1.out, HD2.out, hsn.out]; simp only [List.append_assoc]
        case measure => simp [intOf]; omega
      · have hk0 : k = m := by omega
        have hfin : Hid (b.data.toList = packT n) := by
          unfold Hid packT; rw [hbt.out, List.take_of_length_le (by rw [Hm1.out]; omega), List.take_of_length_le (by rw [Hm2.out]; omega)]
        clear hbt hk0
        go_wp2
        go_ret2
        exact ⟨_, _, rfl, by unfold Pk; rw [HR.out]; exact ⟨hfin.out, rfl⟩, by omega, hbw⟩
def ints (xs : List Int) : List Value := xs.map (Value.int .i64)
theorem ints_snoc (xs : List Int) (x : Int) : ints (xs ++ [x]) = ints xs ++ [.int .i64 x] := by simp [ints]
theorem len_ints (xs : List Int) : (ints xs).length = xs.length := by simp [ints]
def Own (w : World) (B : Nat) (kv vv : Value) (ks vs : List Int) : Prop :=
  w.ownsRow B 3 1 kv ks.length (ints ks) ∧ w.ownsRow B 3 1 vv vs.length (ints vs) ∧ (∀ g, kv.ownBlock = some g → vv.ownBlock = some g → False)
def NB (w : World) (b : Nat) (lv lk hi : Int) (kv vv : Value) (ks vs : List Int) : Prop :=
  w.heap[b]? = some (.cells #[.int .i64 lv, .int .i64 lk, .int .i64 hi, kv, vv] 67 (0, 0)) ∧ Own w (b + 1) kv vv ks vs
theorem NB.lt {w : World} {b : Nat} {lv lk hi : Int} {kv vv : Value} {ks vs : List Int} (h : NB w b lv lk hi kv vv ks vs) : b < w.heap.size := lt_of_block h.1
theorem node_cells {w : World} {b : Nat} {c0 c1 c2 c3 c4 : Value} {t : TypeId} (h : w.heap[b]? = some (.cells #[c0, c1, c2, c3, c4] t (0, 0))) :
    (w.cell? ⟨b, 0, none⟩ = some c0 ∧ w.cell? ⟨b, 1, none⟩ = some c1 ∧ w.cell? ⟨b, 2, none⟩ = some c2 ∧ w.cell? ⟨b, 3, none⟩ = some c3 ∧ w.cell? ⟨b, 4, none⟩ = some c4) ∧
    (w.frozen? ⟨b, 0, none⟩ = false ∧ w.frozen? ⟨b, 1, none⟩ = false ∧ w.frozen? ⟨b, 2, none⟩ = false ∧ w.frozen? ⟨b, 3, none⟩ = false ∧ w.frozen? ⟨b, 4, none⟩ = false) := by
  have c := fun i => Go.Joins.cell_of_block h i
  have f := fun i => Go.Joins.unfrozen_of_block h i
  exact ⟨⟨by rw [c]; rfl, by rw [c]; rfl, by rw [c]; rfl, by rw [c]; rfl, by rw [c]; rfl⟩, ⟨f _, f _, f _, f _, f _⟩⟩
theorem block_alloc {w : World} {b : Nat} {x : Obj} (h : w.heap[b]? = some x) (o : Obj) : (w.alloc o).heap[b]? = some x := by
  rw [Below.heap_alloc _ _ _ (lt_of_block h)]; exact h
theorem block_below {w w' : World} {b : Nat} {x : Obj} (h : w.heap[b]? = some x) (hb : Below w.heap.size w w') : w'.heap[b]? = some x := by
  rw [hb.block b (lt_of_block h)]; exact h
theorem node_cells1 {w : World} {b : Nat} {c0 c1 c2 c3 c4 : Value} {t : TypeId} (h : w.heap[b]? = some (.cells #[c0, c1, c2, c3, c4] t (0, 0))) :
    ((∀ o, (w.alloc o).cell? ⟨b, 0, none⟩ = some c0) ∧ (∀ o, (w.alloc o).cell? ⟨b, 1, none⟩ = some c1) ∧ (∀ o, (w.alloc o).cell? ⟨b, 2, none⟩ = some c2) ∧ (∀ o, (w.alloc o).cell? ⟨b, 3, none⟩ = some c3) ∧ (∀ o, (w.alloc o).cell? ⟨b, 4, none⟩ = some c4)) ∧
    ((∀ o, (w.alloc o).frozen? ⟨b, 0, none⟩ = false) ∧ (∀ o, (w.alloc o).frozen? ⟨b, 1, none⟩ = false) ∧ (∀ o, (w.alloc o).frozen? ⟨b, 2, none⟩ = false) ∧ (∀ o, (w.alloc o).frozen? ⟨b, 3, none⟩ = false) ∧ (∀ o, (w.alloc o).frozen? ⟨b, 4, none⟩ = false)) := by
  have k := fun o => node_cells (block_alloc h o)
  exact ⟨⟨fun o => (k o).1.1, fun o => (k o).1.2.1, fun o => (k o).1.2.2.1, fun o => (k o).1.2.2.2.1, fun o => (k o).1.2.2.2.2⟩, ⟨fun o => (k o).2.1, fun o => (k o).2.2.1, fun o => (k o).2.2.2.1, fun o => (k o).2.2.2.2.1, fun o => (k o).2.2.2.2.2⟩⟩
theorem news_one (w : World) (x : Value) (t : TypeId) : ∀ j u, [x][j]? = some u → (w.alloc (.cells #[x] t)).cell? ((⟨w.heap.size, 0, none⟩ : Addr).add j) = some u := by
  intro j u hj
  match j, hj with
  | 0, hj =>
    simp at hj; subst hj
    simp [Addr.add]
theorem own_ne {w : World} {B : Nat} {e : TypeId} {v : Value} {n : Nat} {xs : List Value} (h : w.ownsRow B e 1 v n xs) {k : Nat} (hk : k < B) : v.ownBlock ≠ some k := fun he => by
  have := (h.lt k he).1; omega
theorem own_alloc_ne {w : World} {B : Nat} {e : TypeId} {v : Value} {n : Nat} {xs : List Value} (h : w.ownsRow B e 1 v n xs) {k : Nat} (hk : w.heap.size ≤ k) : v.ownBlock ≠ some k := fun he => by
  have := (h.lt k he).2; omega
theorem NB.mid {w w1 : World} {b : Nat} {lv lk hi : Int} {kv vv : Value} {ks vs : List Int} {o : Obj} {row : Option Nat} (h : NB w b lv lk hi kv vv ks vs)
    (hg : (w.alloc o).grownBy w1 row) (hrow : row = kv.ownBlock ∨ row = vv.ownBlock) :
    w1.heap[b]? = some (.cells #[.int .i64 lv, .int .i64 lk, .int .i64 hi, kv, vv] 67 (0, 0)) ∧ Below (b + 1) w w1 := by
  have hlt := h.lt
  have hr : ∀ k, row = some k → b + 1 ≤ k := by
    intro k hk
    rcases hrow with e | e
    · exact (h.2.1.lt k (e ▸ hk)).1
    · exact (h.2.2.1.lt k (e ▸ hk)).1
  have hB : Below (b + 1) w w1 := ((Below.refl _ w).alloc (by omega) o).grown hg (by simp; omega) hr
  exact ⟨by rw [hB.block b (by omega)]; exact h.1, hB⟩
theorem NB.pushK {w w1 : World} {b : Nat} {lv lk hi : Int} {kv vv v' : Value} {ks vs : List Int} {o : Obj} {x : Int} (h : NB w b lv lk hi kv vv ks vs)
    (hown : w1.ownsRow (b + 1) 3 1 v' (ks.length + 1) (ints ks ++ [.int .i64 x])) (hg : (w.alloc o).grownBy w1 kv.ownBlock) (hat : v'.ownBlock = kv.ownBlock ∨ v'.ownBlock = some (w.alloc o).heap.size) :
    NB (w1.setCell ⟨b, 3, none⟩ v') b lv lk hi v' vv (ks ++ [x]) vs ∧ Below b w (w1.setCell ⟨b, 3, none⟩ v') := by
  obtain ⟨hm, hB⟩ := h.mid hg (Or.inl rfl)
  have hv : w1.ownsRow (b + 1) 3 1 vv vs.length (ints vs) := by
    refine (h.2.2.1.alloc o).kept hg ?_
    cases hvv : vv.ownBlock with
    | none => exact Or.inl rfl
    | some g => exact Or.inr fun e => h.2.2.2 g e.symm hvv
  refine ⟨⟨?_, ?_, ?_, ?_⟩, (hB.mono (Nat.le_succ _)).setCell (Nat.le_refl _) _⟩
  · rw [Go.Joins.block_setCell hm]; rfl
  · rw [List.length_append, ints_snoc]; exact ownsRow_setCell_other hown (own_ne hown (Nat.lt_succ_self _)) _
  · exact ownsRow_setCell_other hv (own_ne hv (Nat.lt_succ_self _)) _
  · intro g h1 h2
    rcases hat with e | e
    · exact h.2.2.2 g (e ▸ h1) h2
    · rw [e] at h1
      exact own_alloc_ne h.2.2.1 (k := g) (by simp at h1; omega) h2
theorem NB.pushV {w w1 : World} {b : Nat} {lv lk hi : Int} {kv vv v' : Value} {ks vs : List Int} {o : Obj} {x : Int} (h : NB w b lv lk hi kv vv ks vs)
    (hown : w1.ownsRow (b + 1) 3 1 v' (vs.length + 1) (ints vs ++ [.int .i64 x])) (hg : (w.alloc o).grownBy w1 vv.ownBlock) (hat : v'.ownBlock = vv.ownBlock ∨ v'.ownBlock = some (w.alloc o).heap.size) :
    NB (w1.setCell ⟨b, 4, none⟩ v') b lv lk hi kv v' ks (vs ++ [x]) ∧ Below b w (w1.setCell ⟨b, 4, none⟩ v') := by
  obtain ⟨hm, hB⟩ := h.mid hg (Or.inr rfl)
  have hv : w1.ownsRow (b + 1) 3 1 kv ks.length (ints ks) := by
    refine (h.2.1.alloc o).kept hg ?_
    cases hvv : kv.ownBlock with
    | none => exact Or.inl rfl
    | some g => exact Or.inr fun e => h.2.2.2 g hvv e.symm
  refine ⟨⟨?_, ?_, ?_, ?_⟩, (hB.mono (Nat.le_succ _)).setCell (Nat.le_refl _) _⟩
  · rw [Go.Joins.block_setCell hm]; rfl
  · exact ownsRow_setCell_other hv (own_ne hv (Nat.lt_succ_self _)) _
  · rw [List.length_append, ints_snoc]; exact ownsRow_setCell_other hown (own_ne hown (Nat.lt_succ_self _)) _
  · intro g h1 h2
    rcases hat with e | e
    · exact h.2.2.2 g h1 (e ▸ h2)
    · rw [e] at h2
      exact own_alloc_ne h.2.1 (k := g) (by simp at h2; omega) h1
theorem NB.new (w : World) (lv lk hi : Int) (b : Nat) (hb : b = w.heap.size) : NB (w.alloc (.cells #[.int .i64 lv, .int .i64 lk, .int .i64 hi, .slice none 0 0, .slice none 0 0] 67)) b lv lk hi (.slice none 0 0) (.slice none 0 0) [] [] :=
  ⟨hb ▸ heap_alloc_new w _, World.ownsRow_nil _ _ _ _, World.ownsRow_nil _ _ _ _, fun g h => by simp [Value.ownBlock] at h⟩
theorem owns_below {w w' : World} {B : Nat} {e : TypeId} {v : Value} {n : Nat} {xs : List Value} (h : w.ownsRow B e 1 v n xs) (hb : Below w.heap.size w w') : w'.ownsRow B e 1 v n xs :=
  h.kept (row := none) ⟨hb.os, hb.tape, hb.output, hb.size, fun k hk _ => hb.block k hk⟩ (by cases v.ownBlock <;> simp)
theorem Own.below {w w' : World} {B : Nat} {kv vv : Value} {ks vs : List Int} (h : Own w B kv vv ks vs) (hb : Below w.heap.size w w') : Own w' B kv vv ks vs :=
  ⟨owns_below h.1 hb, owns_below h.2.1 hb, h.2.2⟩
theorem owns_mono {w : World} {B B' : Nat} {e : TypeId} {v : Value} {n : Nat} {xs : List Value} (h : w.ownsRow B e 1 v n xs) (hb : B' ≤ B) : w.ownsRow B' e 1 v n xs := by
  obtain ⟨h1, h2⟩ := h
  refine ⟨h1, ?_⟩
  rcases h2 with h2 | ⟨g, cap, cur, a, hg, r⟩
  · exact Or.inl h2
  · exact Or.inr ⟨g, cap, cur, a, by omega, r⟩
theorem Own.mono {w : World} {B B' : Nat} {kv vv : Value} {ks vs : List Int} (h : Own w B kv vv ks vs) (hb : B' ≤ B) : Own w B' kv vv ks vs :=
  ⟨owns_mono h.1 hb, owns_mono h.2.1 hb, h.2.2⟩
theorem Own.setCell {w : World} {B : Nat} {kv vv : Value} {ks vs : List Int} (h : Own w B kv vv ks vs) {a : Addr} (ha : a.block < B) (u : Value) : Own (w.setCell a u) B kv vv ks vs :=
  ⟨ownsRow_setCell_below h.1 ha u, ownsRow_setCell_below h.2.1 ha u, h.2.2⟩
theorem NB.drew {w : World} {b : Nat} {lv lk hi : Int} {kv vv : Value} {ks vs : List Int} (h : NB w b lv lk hi kv vv ks vs) : NB w.drew b lv lk hi kv vv ks vs := h
theorem own_form {w : World} {B : Nat} {e : TypeId} {v : Value} {n : Nat} {xs : List Value} (h : w.ownsRow B e 1 v n xs) : ∃ ao cap, v = .slice ao n cap := by
  rcases h.2 with ⟨rfl, h2⟩ | ⟨g, cap, cur, rfl, _⟩
  · exact ⟨none, 0, by rw [h2]⟩
  · exact ⟨_, _, rfl⟩
theorem owns_rd {w : World} {B : Nat} {v : Value} {xs : List Int} (h : w.ownsRow B 3 1 v xs.length (ints xs)) : Rd w v xs := by
  obtain ⟨h1, h2⟩ := h
  rcases h2 with ⟨rfl, h2⟩ | ⟨g, cap, cur, rfl, hg, hh, hn, hm, hs, ht⟩
  · exact ⟨none, 0, by rw [h2], fun hp => by omega⟩
  · refine ⟨some ⟨g, 0, none⟩, cap, rfl, fun _ => ⟨g, 0, rfl, fun j hj => ?_⟩⟩
    rw [Nat.zero_add, Go.Joins.cell_of_block hh]
    have e : (cur.toList.take (xs.length * 1))[j]? = (ints xs)[j]? := by rw [ht]
    rw [List.getElem?_take, if_pos (by omega)] at e
    rw [← Array.getElem?_toList, e]
    simp [ints, hj]
theorem Own.rdK {w : World} {B : Nat} {kv vv : Value} {ks vs : List Int} (h : Own w B kv vv ks vs) : Rd w kv ks := owns_rd h.1
theorem Own.rdV {w : World} {B : Nat} {kv vv : Value} {ks vs : List Int} (h : Own w B kv vv ks vs) : Rd w vv vs := owns_rd h.2.1
end Go.Proofs.YtajobgmnmbnhiaaGreatDoor.Sap
