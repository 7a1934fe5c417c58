/- WHAT IS PROVED HERE: saplinglaw.marked, saplinglaw.sameNode and saplinglaw.written, as far as Packs needs them. Conditions: named at each theorem. -/
import Derived.Test.YtajobgmnmbnhiaaDoorW10
namespace Go.Proofs.YtajobgmnmbnhiaaDoor.Sap
open Go.RowKit

theorem rep_at (n : Nat) (m : Int) (k : Nat) (h : k < n) : (List.replicate n m)[k]?.getD 0 = m := by simp [h]

set_option maxRecDepth 100000 in
set_option maxHeartbeats 800000 in
theorem marked_yes (v : Value) (m : Int) (n : Nat) (w : World) (h : Rd w v (List.replicate n m)) (hn : n ≤ 17592186044416) :
    Calls Tryd.prog 19 #[v, .int .i64 m] w fun e w' => e = .returned (.bool true) ∧ w' = w := by
  have HR := hideIt h
  obtain ⟨ao, cap, rfl⟩ := h.len
  rw [List.length_replicate] at HR ⊢
  clear h
  go_enter Tryd.func19, Tryd.ntmps19
  go_wp2
  go_loop [5] (fun i => ∃ k : Nat, k ≤ n ∧ i = .int .i64 k) (fun i => n - (intOf i).toNat)
  case atStart => exact ⟨0, Nat.zero_le _, rfl⟩
  case round =>
    obtain ⟨k, hk, rfl⟩ := hrel
    by_cases hlt : k < n
    · obtain ⟨b, off, rfl, -, hc⟩ := HR.out.elem k hlt
      have hc1 := hc w (Below.refl _ _)
      rw [rep_at n m k hlt] at hc1
      have hkk : (0 : Int) ≤ (k : Int) := by omega
      have hkl : (k : Int) < (n : Int) := by omega
      clear hc
      go_wp2
      go_round
      case rel => exact ⟨k + 1, by omega, by go_num⟩
      case measure => simp [intOf]; omega
    · go_wp2
      go_ret
      exact ⟨rfl, rfl⟩

theorem below_alloc2 (w : World) (o1 o2 : Obj) : Below w.heap.size w ((w.alloc o1).alloc o2) := ((Below.refl _ _).alloc (Nat.le_refl _) o1).alloc (by simp) o2

set_option maxRecDepth 100000 in
set_option maxHeartbeats 1600000 in
theorem sameNode_yes (lv lk hi : Int) (ks vs : List Int) (ka va kb vb : Value) (w : World) (h1 : Rd w ka ks) (h2 : Rd w va vs) (h3 : Rd w kb ks) (h4 : Rd w vb vs) (hk : ks.length ≤ 17592186044416) (hv : vs.length ≤ 17592186044416) :
    Calls Tryd.prog 17 #[.agg #[.int .i64 lv, .int .i64 lk, .int .i64 hi, ka, va], .agg #[.int .i64 lv, .int .i64 lk, .int .i64 hi, kb, vb]] w fun e w' => e = .returned (.bool true) ∧ Below w.heap.size w w' := by
  have H1 := hideIt h1
  have H2 := hideIt h2
  have H3 := hideIt h3
  have H4 := hideIt h4
  obtain ⟨a1, c1, rfl⟩ := h1.len
  obtain ⟨a2, c2, rfl⟩ := h2.len
  obtain ⟨a3, c3, rfl⟩ := h3.len
  obtain ⟨a4, c4, rfl⟩ := h4.len
  obtain ⟨m, hm⟩ : ∃ m, ks.length = m := ⟨_, rfl⟩
  obtain ⟨n, hn⟩ : ∃ n, vs.length = n := ⟨_, rfl⟩
  rw [hm] at H1 H3 hk ⊢
  rw [hn] at H2 H4 hv ⊢
  clear h1 h2 h3 h4 hm hn
  go_enter Tryd.func17, Tryd.ntmps17
  go_wp2
  go_loopw [5] (fun i wr => ∃ k d : Nat, k ≤ m ∧ i = .int .i64 k ∧ wr = ((w.alloc (.cells #[.int .i64 lv, .int .i64 lk, .int .i64 hi, .slice a1 m c1, .slice a2 n c2] 24)).alloc (.cells #[.int .i64 lv, .int .i64 lk, .int .i64 hi, .slice a3 m c3, .slice a4 n c4] 24)).drewN d) (fun i _ => m - (intOf i).toNat)
  case atStart => exact ⟨0, 0, Nat.zero_le _, rfl, rfl⟩
  case round =>
    obtain ⟨k, d, hk, rfl, rfl⟩ := hrel
    by_cases hlt : k < m
    · obtain ⟨b1, o1, rfl, -, x1⟩ := H1.out.elem k hlt
      obtain ⟨b3, o3, rfl, -, x3⟩ := H3.out.elem k hlt
      have y1 : ∀ p q, ((w.alloc p).alloc q).cell? ⟨b1, o1 + k, none⟩ = some (.int .i64 (ks[k]?.getD 0)) := fun p q => x1 _ (below_alloc2 w p q)
      have y3 : ∀ p q, ((w.alloc p).alloc q).cell? ⟨b3, o3 + k, none⟩ = some (.int .i64 (ks[k]?.getD 0)) := fun p q => x3 _ (below_alloc2 w p q)
      have hkk : (0 : Int) ≤ (k : Int) := by omega
      have hkl : (k : Int) < (m : Int) := by omega
      clear x1 x3
      go_wp2
      go_quiet (fail)
      go_wp2
      go_roundw
      case rel => exact ⟨k + 1, _, by omega, by go_num, rfl⟩
      case measure => simp [intOf]; omega
    · go_wp2
      go_loopw [6] (fun i wr => ∃ k d : Nat, k ≤ n ∧ i = .int .i64 k ∧ wr = ((w.alloc (.cells #[.int .i64 lv, .int .i64 lk, .int .i64 hi, .slice a1 m c1, .slice a2 n c2] 24)).alloc (.cells #[.int .i64 lv, .int .i64 lk, .int .i64 hi, .slice a3 m c3, .slice a4 n c4] 24)).drewN d) (fun i _ => n - (intOf i).toNat)
      case atStart => exact ⟨0, _, Nat.zero_le _, rfl, rfl⟩
      case round =>
        obtain ⟨k, d, hk, rfl, rfl⟩ := hrel
        by_cases hlt : k < n
        · obtain ⟨b1, o1, rfl, -, x1⟩ := H2.out.elem k hlt
          obtain ⟨b3, o3, rfl, -, x3⟩ := H4.out.elem k hlt
          have y1 : ∀ p q, ((w.alloc p).alloc q).cell? ⟨b1, o1 + k, none⟩ = some (.int .i64 (vs[k]?.getD 0)) := fun p q => x1 _ (below_alloc2 w p q)
          have y3 : ∀ p q, ((w.alloc p).alloc q).cell? ⟨b3, o3 + k, none⟩ = some (.int .i64 (vs[k]?.getD 0)) := fun p q => x3 _ (below_alloc2 w p q)
          have hkk : (0 : Int) ≤ (k : Int) := by omega
          have hkl : (k : Int) < (n : Int) := by omega
          clear x1 x3
          go_wp2
          go_quiet (fail)
          go_wp2
          go_roundw
          case rel => exact ⟨k + 1, _, by omega, by go_num, rfl⟩
          case measure => simp [intOf]; omega
        · go_wp2
          go_ret
          have hb := below_alloc2 w (.cells #[.int .i64 lv, .int .i64 lk, .int .i64 hi, .slice a1 m c1, .slice a2 n c2] 24) (.cells #[.int .i64 lv, .int .i64 lk, .int .i64 hi, .slice a3 m c3, .slice a4 n c4] 24)
          exact ⟨rfl, ⟨hb.os, hb.tape, hb.output, hb.size, hb.block⟩⟩

theorem grown_trans {a b c : World} {row : Option Nat} (h : a.grownBy b row) (k : b.grownBy c row) : a.grownBy c row :=
  ⟨k.os.trans h.os, k.tape.trans h.tape, k.output.trans h.output, Nat.le_trans h.size k.size, fun i hi hne => (k.block i (Nat.lt_of_lt_of_le hi h.size) hne).trans (h.block i hi hne)⟩

theorem rep_set (k n : Nat) (m : Int) (xs : List Int) (hx : xs.length = n) (hk : k < n) : (ints (List.replicate k m ++ xs.drop k)).set k (.int .i64 m) = ints (List.replicate (k + 1) m ++ xs.drop (k + 1)) := by
  unfold ints
  rw [← List.map_set (f := Value.int .i64) (a := m)]
  congr 1
  rw [List.set_append_right _ _ (by simp), List.length_replicate, Nat.sub_self, List.drop_eq_getElem_cons (by omega), List.set_cons_zero, List.replicate_succ', List.append_assoc]
  rfl

theorem ints_rep (n : Nat) (m : Int) : ints (List.replicate n m) ++ [.int .i64 m] = ints (List.replicate (n + 1) m) := by
  rw [List.replicate_succ', ints_snoc]

/-- A slice's first cells, by the row that a longer slice at the same head owns. -/
theorem owns_shorter {w : World} {B g n cap cap' : Nat} {m : Int} (h : w.ownsRow B 3 1 (.slice (some ⟨g, 0, none⟩) (n + 1) cap') (n + 1) (ints (List.replicate (n + 1) m))) : Rd w (.slice (some ⟨g, 0, none⟩) n cap) (List.replicate n m) := by
  refine ⟨some ⟨g, 0, none⟩, cap, by rw [List.length_replicate], fun _ => ⟨g, 0, rfl, fun j hj => ?_⟩⟩
  rw [List.length_replicate] at hj
  rw [Nat.zero_add, h.cellAt j (by omega), rep_at n m j hj, ints, List.getElem?_map, List.getElem?_replicate, if_pos (by omega)]
  rfl

set_option maxRecDepth 100000 in
set_option maxHeartbeats 1600000 in
theorem written_any (v : Value) (m : Int) (xs : List Int) (B : Nat) (w : World) (h : w.ownsRow B 3 1 v xs.length (ints xs)) (hn : xs.length ≤ 40) :
    Calls Tryd.prog 18 #[v, .int .i64 m] w fun e w' => ∃ v', e = .returned v' ∧ Rd w' v (List.replicate xs.length m) ∧ Rd w' v' (List.replicate (xs.length + 1) m) ∧ w.grownBy w' v.ownBlock ∧ (∀ g, v'.ownBlock = some g → (v.ownBlock = some g ∨ w.heap.size ≤ g) ∧ g < w'.heap.size) := by
  obtain ⟨i0, hi0, hz0, hz1, hz2⟩ := info_parts infoInt
  obtain ⟨n, hxn⟩ : ∃ n, xs.length = n := ⟨_, rfl⟩
  rw [hxn] at h hn ⊢
  have HX := hideIt hxn
  clear hxn
  have HO := hideIt h
  rcases h.2 with ⟨rfl, rfl⟩ | ⟨g, cap, cur, rfl, hg, hh, hnc, hcm, -, -⟩
  · clear h
    go_enter Tryd.func18, Tryd.ntmps18
    go_wp2
    refine wp_loop_rounds 1 ?_
    rw [rounds_succ]
    go_wp2_with (at_builtin; refine wpList_append_grows _ rfl _ _ 22 rfl 3 i0 (.int .i64 0) 1 8 Tryd.underlying22 hi0 hz0 hz1 hz2 rfl (by decide) none 0 0 [] rfl (fun _ => ⟨rfl, rfl⟩) rfl (fun b hb => by cases hb) ⟨w.heap.size, 0, none⟩ 1 1 [.int .i64 m] rfl rfl (news_one _ _ _) (by simp [Value.oneCell']) (by decide) (by decide) (by decide) ?_; intro v1 w1 hown hgrow)
    go_ret
    refine ⟨v1, rfl, ⟨none, 0, rfl, fun hp => absurd hp (by simp)⟩, owns_rd (B := (w.alloc (.cells #[.int .i64 m] 3)).heap.size) hown, grown_trans (World.grownBy_alloc w _ _) hgrow, fun q hq => ?_⟩
    obtain ⟨l1, l2⟩ := hown.lt q hq
    exact ⟨Or.inr (by simp at l1; omega), l2⟩
  · clear h
    have hgs := lt_of_block hh
    clear hh
    go_enter Tryd.func18, Tryd.ntmps18
    go_wp2
    go_loopw [5] (fun i wr => ∃ k : Nat, k ≤ n ∧ i = .int .i64 k ∧ Hid (wr.ownsRow B 3 1 (.slice (some ⟨g, 0, none⟩) n cap) n (ints (List.replicate k m ++ xs.drop k))) ∧ w.grownBy wr (some g)) (fun i _ => n - (intOf i).toNat)
    case atStart => exact ⟨0, Nat.zero_le _, rfl, HO.out, World.grownBy.refl _ _⟩
    case round =>
      obtain ⟨k, hk, rfl, hown, hgr⟩ := hrel
      by_cases hlt : k < n
      · have hc : ∃ u, wr.cell? ⟨g, k, none⟩ = some (.int .i64 u) := by
          rw [hown.out.cellAt k (by omega)]
          unfold ints
          rw [List.getElem?_map, List.getElem?_append_right (by simp), List.length_replicate, Nat.sub_self, List.getElem?_drop, Nat.add_zero]
          rw [List.getElem?_eq_getElem (by rw [HX.out]; omega)]
          exact ⟨_, rfl⟩
        obtain ⟨u, hc⟩ := hc
        have hf := hown.out.frozenAt k
        have hst := hown.out.stored k (.int .i64 m)
        rw [rep_set k n m xs HX.out hlt] at hst
        have HS := hideIt hst
        have hkk : (0 : Int) ≤ (k : Int) := by omega
        have hkl : (k : Int) < (n : Int) := by omega
        clear hst hown
        go_wp2
        go_roundw
        case rel => exact ⟨k + 1, by omega, by go_num, HS.out.1, grown_trans hgr HS.out.2⟩
        case measure => simp [intOf]; omega
      · have hfull : Hid (wr.ownsRow B 3 1 (.slice (some ⟨g, 0, none⟩) n cap) n (ints (List.replicate n m))) := by
          have h1 := hown.out
          obtain rfl : k = n := by omega
          rw [List.drop_of_length_le (by rw [HX.out]; omega), List.append_nil] at h1
          exact h1
        have hgs2 := hgr.size
        clear hown
        by_cases hcp : n + 1 ≤ cap
        · go_wp2_with (at_builtin; refine wpList_append_fits _ rfl _ _ 22 rfl B 3 i0 1 Tryd.underlying22 hi0 hz1 g n cap (ints (List.replicate n m)) rfl (hfull.out.alloc _) ⟨wr.heap.size, 0, none⟩ 1 1 [.int .i64 m] rfl rfl (news_one _ _ _) (by simp [Value.oneCell']) hcp ?_; intro w1 hown hgrow)
          go_ret
          rw [ints_rep] at hown
          refine ⟨_, rfl, owns_shorter hown, owns_rd (B := B) (by rw [List.length_replicate]; exact hown), grown_trans hgr (grown_trans (World.grownBy_alloc wr _ _) hgrow), fun q hq => ?_⟩
          exact ⟨Or.inl hq, (hown.lt q hq).2⟩
        · go_wp2_with (at_builtin; refine wpList_append_grows _ rfl _ _ 22 rfl 3 i0 (.int .i64 0) 1 8 Tryd.underlying22 hi0 hz0 hz1 hz2 rfl (by decide) (some ⟨g, 0, none⟩) n cap (ints (List.replicate n m)) rfl (fun hb => by cases hb) (by rw [len_ints, List.length_replicate]; omega) (fun b hb j u hj => by cases hb; exact (hfull.out.alloc _).cells (g := g) rfl j u hj) ⟨wr.heap.size, 0, none⟩ 1 1 [.int .i64 m] rfl rfl (news_one _ _ _) (by simp [Value.oneCell']) (by omega) (by unfold maxLen; omega) (by omega) ?_; intro v1 w1 hown hgrow)
          go_ret
          rw [ints_rep] at hown
          have hR0 := owns_rd (xs := List.replicate n m) (by rw [List.length_replicate]; exact hfull.out)
          refine ⟨_, rfl, ?_, owns_rd (B := (wr.alloc (.cells #[.int .i64 m] 3)).heap.size) (by rw [List.length_replicate]; exact hown), grown_trans hgr (grown_trans (World.grownBy_alloc wr _ _) ⟨hgrow.os, hgrow.tape, hgrow.output, hgrow.size, fun i hi _ => hgrow.block i hi (by simp)⟩), fun q hq => ?_⟩
          · exact (hR0.alloc _).below ⟨hgrow.os, hgrow.tape, hgrow.output, hgrow.size, fun i hi => hgrow.block i hi (by simp)⟩
          · obtain ⟨l1, l2⟩ := hown.lt q hq
            exact ⟨Or.inr (by simp at l1; omega), l2⟩
end Go.Proofs.YtajobgmnmbnhiaaDoor.Sap
