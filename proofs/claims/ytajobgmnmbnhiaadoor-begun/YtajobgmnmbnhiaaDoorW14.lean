/- WHAT IS PROVED HERE: saplinglaw.roomy and saplinglaw.whole, as far as Packs needs them. Conditions: the slice is no longer than memory bears. -/
import Derived.Test.YtajobgmnmbnhiaaDoorW13
import Derived.Laws.CopyOwn
namespace Go.Proofs.YtajobgmnmbnhiaaDoor.Sap
open Go.RowKit

theorem eql_nil (w : World) (a : Option Addr) (l c : Nat) : (binOp .eql 22 (.slice a l c) (.slice none 0 0)).run Tryd.prog w = .ok (.bool a.isNone) w := by
  simp only [binOp]
  simp [run_equal_slice_nil w 22 3 a l c Tryd.underlying22]

set_option maxHeartbeats 800000 in
theorem roomy_nil (w : World) : Calls Tryd.prog 11 #[.slice none 0 0] w fun e w' => e = .returned (.slice none 0 0) ∧ w' = w := by
  have hq := fun u => eql_nil u none 0 0
  go_enter Tryd.func11, Tryd.ntmps11
  go_wp2
  go_ret
  exact ⟨rfl, rfl⟩

/-- The row behind roomy. -/
def roomRow (xs : List Int) : List Value := ints xs ++ [.int .i64 (-77)]

theorem sizeInt : (Tryd.prog.info? 3).map (·.size) = some 1 := by kernel_rfl
theorem made_row (n : Nat) : (madeCells (Value.int .i64 0).cells ((n + 1) * 1)).toList.length = n + 1 := by
  simp [madeCells]

theorem row_of {w : World} {B g n : Nat} {e : TypeId} {xs : List Value} (h : w.ownsRow B e 1 (.slice (some ⟨g, 0, none⟩) n n) n xs) : ∃ cur : List Value, cur.length = n ∧ w.heap[g]? = some (.cells cur.toArray e (0, 0)) := by
  rcases h.2 with ⟨h', _⟩ | ⟨g', cap', cur, h', _, hg, _, _, hs, _⟩
  · simp at h'
  · simp only [Value.slice.injEq, Option.some.injEq, Addr.mk.injEq, and_true, true_and] at h'
    obtain ⟨rfl, rfl⟩ := h'
    exact ⟨cur.toList, by simpa using hs, by simpa using hg⟩

theorem Rd.src {w w1 : World} {a : Addr} {n cap : Nat} {xs : List Int} (h : Rd w (.slice (some a) n cap) xs) (hb : Below w.heap.size w w1) (hp : 0 < (ints xs).length) :
    ∃ ad, some a = some ad ∧ ∀ j v, (ints xs)[j]? = some v → w1.cell? (ad.add j) = some v := by
  obtain ⟨ao, cap', hv, hr⟩ := h
  simp only [Value.slice.injEq] at hv
  obtain ⟨rfl, rfl, rfl⟩ := hv
  rw [len_ints] at hp
  obtain ⟨b, off, hab, hc⟩ := hr hp
  refine ⟨a, rfl, fun j v hj => ?_⟩
  have hjl : j < xs.length := by
    rcases Nat.lt_or_ge j xs.length with h' | h'
    · exact h'
    · rw [List.getElem?_eq_none (by rw [len_ints]; exact h')] at hj; cases hj
  have hc1 := cell_below hb _ _ (hc j hjl)
  simp only [Option.some.injEq] at hab
  subst hab
  have hadd : (⟨b, off, none⟩ : Addr).add j = ⟨b, off + j, none⟩ := by unfold Addr.add; split <;> simp_all
  rw [hadd, hc1]
  have : (ints xs)[j]? = some (.int .i64 (xs[j]?.getD 0)) := by simp [ints, hjl]
  rw [← this, hj]

theorem room_set (xs : List Int) (n : Nat) (cur : List Value) (hx : xs.length = n) (hc : cur.length = n + 1) : (splice cur 0 (ints xs)).toArray.setIfInBounds n (.int .i64 (-77)) = (roomRow xs).toArray := by
  have h1 : (ints xs).length = n := by rw [len_ints, hx]
  obtain ⟨z, hz⟩ : ∃ z, cur.drop n = [z] := by
    have : (cur.drop n).length = 1 := by rw [List.length_drop]; omega
    exact List.length_eq_one_iff.1 this
  unfold splice roomRow
  rw [Nat.zero_add, h1, hz, List.take_zero, List.nil_append, List.setIfInBounds_toArray]
  congr 1
  rw [List.set_append_right _ _ (by omega), h1, Nat.sub_self]
  rfl

set_option maxRecDepth 100000 in
set_option maxHeartbeats 800000 in
theorem roomy_some (a : Addr) (n cap : Nat) (xs : List Int) (w : World) (h : Rd w (.slice (some a) n cap) xs) (hx : xs.length = n) (hn : n * 8 ≤ 140737488351232) :
    Calls Tryd.prog 11 #[.slice (some a) n cap] w fun e w' => e = .returned (.slice (some ⟨w.heap.size, 0, none⟩) n (n + 1)) ∧ w'.heap[w.heap.size]? = some (.cells (roomRow xs).toArray 3 (0, 0)) ∧ Below w.heap.size w w' := by
  obtain ⟨i0, hi0, hz0, hz1, hz2⟩ := info_parts infoInt
  have HR := hideIt h
  have HX := hideIt hx
  clear h hx
  have hq := fun u => eql_nil u (some a) n cap
  go_enter Tryd.func11, Tryd.ntmps11
  go_wp2_with (first | (at_make; refine wpList_make_full _ rfl _ _ 22 rfl w.heap.size 3 i0 (.int .i64 0) 1 Tryd.underlying22 hi0 hz0 hz1 .i64 .i64 _ _ (n + 1) rfl rfl (by omega) (by omega) (by rw [hz2]; omega) (by unfold maxLen; omega) (Nat.le_refl _) ?_; intro w1 hown hgrow; obtain ⟨cur, hcl, hg0⟩ := row_of hown; have HG := hideIt hg0; have hb1 : Below w.heap.size w w1 := (Below.refl _ _).grown hgrow (Nat.le_refl _) (fun k hk => by cases hk); clear hown hgrow hg0) | (refine wpList_copy_splice rfl _ _ 22 22 rfl 3 Tryd.underlying22 sizeInt (some ⟨w.heap.size, 0, none⟩) (some a) (n + 1) (n + 1) n cap rfl rfl w.heap.size 0 cur 3 HG.out (ints xs) (by rw [len_ints, HX.out]; exact (Nat.min_eq_left (Nat.le_succ n)).symm) (fun hp => ⟨rfl, HR.out.src hb1 hp⟩) (by rw [len_ints, HX.out, hcl]; omega) (by intro v hv; simp [ints] at hv; obtain ⟨q, -, rfl⟩ := hv; rfl) w.heap.size w hb1 (Nat.le_refl _) ?_; intro w2 hg2 hb2; have hf2 := Go.Joins.unfrozen_of_block hg2.out n; have hcell : ∃ u, w2.cell? ⟨w.heap.size, n, none⟩ = some u := (by rw [Go.Joins.cell_of_block hg2.out n]; simp only [List.getElem?_toArray]; exact ⟨_, List.getElem?_eq_getElem (by rw [length_splice _ _ _ (by rw [len_ints, HX.out, hcl]; omega), hcl]; omega)⟩); obtain ⟨u2, hc2⟩ := hcell))
  go_ret
  exact ⟨rfl, by rw [Go.Joins.block_setCell hg2.out, room_set xs n cur HX.out hcl], hb2.setCell (Nat.le_refl _) _⟩

set_option maxHeartbeats 800000 in
theorem whole_nil (v : Value) (w : World) : Calls Tryd.prog 14 #[v, .slice none 0 0] w fun e w' => e = .returned (.bool true) ∧ w' = w := by
  have hq := fun u => eql_nil u none 0 0
  go_enter Tryd.func14, Tryd.ntmps14
  go_wp2
  go_ret
  exact ⟨rfl, rfl⟩

theorem room_at (xs : List Int) (k : Nat) (h : k < xs.length) : (roomRow xs).toArray[k]? = some (.int .i64 (xs[k]?.getD 0)) := by
  unfold roomRow ints
  rw [List.getElem?_toArray, List.getElem?_append_left (by simpa using h)]
  simp [h]
theorem room_last (xs : List Int) (n : Nat) (h : xs.length = n) : (roomRow xs).toArray[n]? = some (.int .i64 (-77)) := by
  unfold roomRow
  rw [List.getElem?_toArray, List.getElem?_append_right (by rw [len_ints]; omega), len_ints, h, Nat.sub_self]
  rfl

set_option maxRecDepth 100000 in
set_option maxHeartbeats 800000 in
theorem whole_some (g : Nat) (a : Addr) (n cap : Nat) (xs : List Int) (w : World) (hg : w.heap[g]? = some (.cells (roomRow xs).toArray 3 (0, 0))) (h : Rd w (.slice (some a) n cap) xs) (hx : xs.length = n) (hn : n * 8 ≤ 140737488351232) :
    Calls Tryd.prog 14 #[.slice (some ⟨g, 0, none⟩) n (n + 1), .slice (some a) n cap] w fun e w' => e = .returned (.bool true) ∧ Below w.heap.size w w' := by
  have hq := fun u => eql_nil u (some a) n cap
  have HG := hideIt hg
  have HR := hideIt h
  have HX := hideIt hx
  have hlast : w.cell? ⟨g, n, none⟩ = some (.int .i64 (-77)) := by rw [Go.Joins.cell_of_block hg, room_last xs n hx]
  clear hg h hx
  go_enter Tryd.func14, Tryd.ntmps14
  go_wp2
  go_loopw [7] (fun i wr => ∃ k d : Nat, k ≤ n ∧ i = .int .i64 k ∧ wr = w.drewN d) (fun i _ => n - (intOf i).toNat)
  case atStart => exact ⟨0, 0, Nat.zero_le _, rfl, rfl⟩
  case round =>
    obtain ⟨k, d, hk, rfl, rfl⟩ := hrel
    by_cases hlt : k < n
    · obtain ⟨b1, o1, hab, -, x1⟩ := HR.out.elem k hlt
      simp only [Option.some.injEq] at hab
      subst hab
      have y1 : w.cell? ⟨b1, o1 + k, none⟩ = some (.int .i64 (xs[k]?.getD 0)) := x1 _ (Below.refl _ _)
      have y2 : w.cell? ⟨g, k, none⟩ = some (.int .i64 (xs[k]?.getD 0)) := by rw [Go.Joins.cell_of_block HG.out, room_at xs k (by rw [HX.out]; exact hlt)]
      have hkk : (0 : Int) ≤ (k : Int) := by omega
      have hkl : (k : Int) < (n : Int) := by omega
      have hkl2 : (k : Int) < (n : Int) + 1 := by omega
      clear x1
      go_wp2
      go_quiet (fail)
      go_wp2
      go_roundw
      case rel => exact ⟨k + 1, _, by omega, by go_num, rfl⟩
      case measure => simp [intOf]; omega
    · go_wp2
      go_ret
      exact ⟨rfl, ⟨rfl, rfl, rfl, Nat.le_refl _, fun _ _ => rfl⟩⟩
end Go.Proofs.YtajobgmnmbnhiaaDoor.Sap
