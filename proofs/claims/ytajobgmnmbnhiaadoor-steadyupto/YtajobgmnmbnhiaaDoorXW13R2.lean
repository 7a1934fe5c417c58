/- WHAT IS PROVED HERE: saplinglaw.marked, saplinglaw.sameNode and saplinglaw.written, as far as Packs needs them. Conditions: named at each theorem. -/
import Derived.Test.YtajobgmnmbnhiaaDoorXMemW10
namespace Go.Proofs.YtajobgmnmbnhiaaDoor.Sap
open Go.RowKit

theorem rep_at (n : Nat) (m : Int) (k : Nat) (h : k < n) : (List.replicate n m)[k]?.getD 0 = m := by simp [h]

set_option maxRecDepth 100000 in
set_option maxHeartbeats 800000 in
theorem marked_yes (v : Value) (m : Int) (n : Nat) (w : World) (h : Rd w v (List.replicate n m)) (hn : n ≤ 17592186044416) :
    Calls Tryd.prog 19 #[v, .int .i64 m] w fun e w' => e = .returned (.bool true) ∧ w' = w := by
  have HR := hideIt h
  obtain ⟨ao, cap, rfl⟩ := h.len
  rw [List.length_replicate] at HR ⊢
  clear h
  go_enter Tryd.func19, Tryd.ntmps19
  go_wp2
  go_loop [5] (fun i => ∃ k : Nat, k ≤ n ∧ i = .int .i64 k) (fun i => n - (intOf i).toNat)
  case atStart => exact ⟨0, Nat.zero_le _, rfl⟩
  case round =>
    obtain ⟨k, hk, rfl⟩ := hrel
    by_cases hlt : k < n
    · obtain ⟨b, off, rfl, -, hc⟩ := HR.out.elem k hlt
      have hc1 := hc w (Below.refl _ _)
      rw [rep_at n m k hlt] at hc1
      have hkk : (0 : Int) ≤ (k : Int) := by omega
      have hkl : (k : Int) < (n : Int) := by omega
      clear hc
      go_wp2
      go_round
      case rel => exact ⟨k + 1, by omega, by go_num⟩
      case measure => simp [intOf]; omega
    · go_wp2
      go_ret
      exact ⟨rfl, rfl⟩

theorem below_alloc2 (w : World) (o1 o2 : Obj) : Below w.heap.size w ((w.alloc o1).alloc o2) := ((Below.refl _ _).alloc (Nat.le_refl _) o1).alloc (by simp) o2

set_option maxRecDepth 100000 in
set_option maxHeartbeats 1600000 in
theorem sameNode_yes (lv lk hi : Int) (ks vs : List Int) (ka va kb vb : Value) (w : World) (h1 : Rd w ka ks) (h2 : Rd w va vs) (h3 : Rd w kb ks) (h4 : Rd w vb vs) (hk : ks.length ≤ 17592186044416) (hv : vs.length ≤ 17592186044416) :
    Calls Tryd.prog 17 #[.agg #[.int .i64 lv, .int .i64 lk, .int .i64 hi, ka, va], .agg #[.int .i64 lv, .int .i64 lk, .int .i64 hi, kb, vb]] w fun e w' => e = .returned (.bool true) ∧ Below w.heap.size w w' := by
  have H1 := hideIt h1
  have H2 := hideIt h2
  have H3 := hideIt h3
  have H4 := hideIt h4
  obtain ⟨a1, c1, rfl⟩ := h1.len
  obtain ⟨a2, c2, rfl⟩ := h2.len
  obtain ⟨a3, c3, rfl⟩ := h3.len
  obtain ⟨a4, c4, rfl⟩ := h4.len
  obtain ⟨m, hm⟩ : ∃ m, ks.length = m := ⟨_, rfl⟩
  obtain ⟨n, hn⟩ : ∃ n, vs.length = n := ⟨_, rfl⟩
  rw [hm] at H1 H3 hk ⊢
  rw [hn] at H2 H4 hv ⊢
  clear h1 h2 h3 h4 hm hn
  go_enter Tryd.func17, Tryd.ntmps17
  go_wp2
  go_loopw [5] (fun i wr => ∃ k d : Nat, k ≤ m ∧ i = .int .i64 k ∧ wr = ((w.alloc (.cells #[.int .i64 lv, .int .i64 lk, .int .i64 hi, .slice a1 m c1, .slice a2 n c2] 24)).alloc (.cells #[.int .i64 lv, .int .i64 lk, .int .i64 hi, .slice a3 m c3, .slice a4 n c4] 24)).drewN d) (fun i _ => m - (intOf i).toNat)
  case atStart => exact ⟨0, 0, Nat.zero_le _, rfl, rfl⟩
  case round =>
    obtain ⟨k, d, hk, rfl, rfl⟩ := hrel
    by_cases hlt : k < m
    · obtain ⟨b1, o1, rfl, -, x1⟩ := H1.out.elem k hlt
      obtain ⟨b3, o3, rfl, -, x3⟩ := H3.out.elem k hlt
      have y1 : ∀ p q, ((w.alloc p).alloc q).cell? ⟨b1, o1 + k, none⟩ = some (.int .i64 (ks[k]?.getD 0)) := fun p q => x1 _ (below_alloc2 w p q)
      have y3 : ∀ p q, ((w.alloc p).alloc q).cell? ⟨b3, o3 + k, none⟩ = some (.int .i64 (ks[k]?.getD 0)) := fun p q => x3 _ (below_alloc2 w p q)
      have hkk : (0 : Int) ≤ (k : Int) := by omega
      have hkl : (k : Int) < (m : Int) := by omega
      clear x1 x3
      go_wp2
      go_quiet (fail)
      go_wp2
      go_roundw
      case rel => exact ⟨k + 1, _, by omega, by go_num, rfl⟩
      case measure => simp [intOf]; omega
    · go_wp2
      go_loopw [6] (fun i wr => ∃ k d : Nat, k ≤ n ∧ i = .int .i64 k ∧ wr = ((w.alloc (.cells #[.int .i64 lv, .int .i64 lk, .int .i64 hi, .slice a1 m c1, .slice a2 n c2] 24)).alloc (.cells #[.int .i64 lv, .int .i64 lk, .int .i64 hi, .slice a3 m c3, .slice a4 n c4] 24)).drewN d) (fun i _ => n - (intOf i).toNat)
      case atStart => exact ⟨0, _, Nat.zero_le _, rfl, rfl⟩
      case round =>
        obtain ⟨k, d, hk, rfl, rfl⟩ := hrel
        by_cases hlt : k < n
        · obtain ⟨b1, o1, rfl, -, x1⟩ := H2.out.elem k hlt
          obtain ⟨b3, o3, rfl, -, x3⟩ := H4.out.elem k hlt
          have y1 : ∀ p q, ((w.alloc p).alloc q).cell? ⟨b1, o1 + k, none⟩ = some (.int .i64 (vs[k]?.getD 0)) := fun p q => x1 _ (below_alloc2 w p q)
          have y3 : ∀ p q, ((w.alloc p).alloc q).cell? ⟨b3, o3 + k, none⟩ = some (.int .i64 (vs[k]?.getD 0)) := fun p q => x3 _ (below_alloc2 w p q)
          have hkk : (0 : Int) ≤ (k : Int) := by omega
          have hkl : (k : Int) < (n : Int) := by omega
          clear x1 x3
          go_wp2
          go_quiet (fail)
          go_wp2
          go_roundw
          case rel => exact ⟨k + 1, _, by omega, by go_num, rfl⟩
          case measure => simp [intOf]; omega
        · go_wp2
          go_ret
          have hb := below_alloc2 w (.cells #[.int .i64 lv, .int .i64 lk, .int .i64 hi, .slice a1 m c1, .slice a2 n c2] 24) (.cells #[.int .i64 lv, .int .i64 lk, .int .i64 hi, .slice a3 m c3, .slice a4 n c4] 24)
          exact ⟨rfl, ⟨hb.os, hb.tape, hb.output, hb.size, hb.block⟩⟩

theorem grown_trans {a b c : World} {row : Option Nat} (h : a.grownBy b row) (k : b.grownBy c row) : a.grownBy c row :=
  ⟨k.os.trans h.os, k.tape.trans h.tape, k.output.trans h.output, Nat.le_trans h.size k.size, fun i hi hne => (k.block i (Nat.lt_of_lt_of_le hi h.size) hne).trans (h.block i hi hne)⟩

theorem rep_set (k n : Nat) (m : Int) (xs : List Int) (hx : xs.length = n) (hk : k < n) : (ints (List.replicate k m ++ xs.drop k)).set k (.int .i64 m) = ints (List.replicate (k + 1) m ++ xs.drop (k + 1)) := by
  unfold ints
  rw [← List.map_set (f := Value.int .i64) (a := m)]
  congr 1
  rw [List.set_append_right _ _ (by simp), List.length_replicate, Nat.sub_self, List.drop_eq_getElem_cons (by omega), List.set_cons_zero, List.replicate_succ', List.append_assoc]
  rfl

theorem ints_rep (n : Nat) (m : Int) : ints (List.replicate n m) ++ [.int .i64 m] = ints (List.replicate (n + 1) m) := by
  rw [List.replicate_succ', ints_snoc]

/-- A slice's first cells, by the row that a longer slice at the same head owns. -/
theorem owns_shorter {w : World} {B g n cap cap' : Nat} {m : Int} (h : w.ownsRow B 3 1 (.slice (some ⟨g, 0, none⟩) (n + 1) cap') (n + 1) (ints (List.replicate (n + 1) m))) : Rd w (.slice (some ⟨g, 0, none⟩) n cap) (List.replicate n m) := by
  refine ⟨some ⟨g, 0, none⟩, cap, by rw [List.length_replicate], fun _ => ⟨g, 0, rfl, fun j hj => ?_⟩⟩
  rw [List.length_replicate] at hj
  rw [Nat.zero_add, h.cellAt j (by omega), rep_at n m j hj, ints, List.getElem?_map, List.getElem?_replicate, if_pos (by omega)]
  rfl

set_option maxRecDepth 100000 in
set_option maxHeartbeats 1600000 in
theorem written_any (v : Value) (m : Int) (xs : List Int) (B : Nat) (w : World) (h : w.ownsRow B 3 1 v xs.length (ints xs)) (hn : xs.length ≤ 40) :
    Calls Tryd.prog 18 #[v, .int .i64 m] w fun e w' => ∃ v', e = .returned v' ∧ Rd w' v (List.replicate xs.length m) ∧ Rd w' v' (List.replicate (xs.length + 1) m) ∧ w.grownBy w' v.ownBlock ∧ (∀ g, v'.ownBlock = some g → (v.ownBlock = some g ∨ w.heap.size ≤ g) ∧ g < w'.heap.size) := by
  obtain ⟨i0, hi0, hz0, hz1, hz2⟩ := info_parts infoInt
  obtain ⟨n, hxn⟩ : ∃ n, xs.length = n := ⟨_, rfl⟩
  rw [hxn] at h hn ⊢
  have HX := hideIt hxn
  clear hxn
  have HO := hideIt h
  rcases h.2 with ⟨rfl, rfl⟩ | ⟨g, cap, cur, rfl, hg, hh, hnc, hcm, -, -⟩
  · clear h
    go_enter Tryd.func18, Tryd.ntmps18
    go_wp2
    refine wp_loop_rounds 1 ?_
    rw [rounds_succ]
    go_wp2_with (at_builtin; refine wpList_append_grows _ rfl _ _ 22 rfl 3 i0 (.int .i64 0) 1 8 Tryd.underlying22 hi0 hz0 hz1 hz2 rfl (by decide) none 0 0 [] rfl (fun _ => ⟨rfl, rfl⟩) rfl (fun b hb => by cases hb) ⟨w.heap.size, 0, none⟩ 1 1 [.int .i64 m] rfl rfl (news_one _ _ _) (by simp [Value.oneCell']) (by decide) (by decide) (by decide) ?_; intro v1 w1 hown hgrow)
    go_ret
    refine ⟨v1, rfl, ⟨none, 0, rfl, fun hp => absurd hp (by simp)⟩, owns_rd (B := (w.alloc (.cells #[.int .i64 m] 3)).heap.size) hown, grown_trans (World.grownBy_alloc w _ _) hgrow, fun q hq => ?_⟩
    obtain ⟨l1, l2⟩ := hown.lt q hq
    exact ⟨Or.inr (by simp at l1; omega), l2⟩
  · clear h
    have hgs := lt_of_block hh
    clear hh
    go_enter Tryd.func18, Tryd.ntmps18
    go_wp2
    go_loopw [5] (fun i wr => ∃ k : Nat, k ≤ n ∧ i = .int .i64 k ∧ Hid (wr.ownsRow B 3 1 (.slice (some ⟨g, 0, none⟩) n cap) n (ints (List.replicate k m ++ xs.drop k))) ∧ w.grownBy wr (some g)) (fun i _ => n - (intOf i).toNat)
    case atStart => exact ⟨0, Nat.zero_le _, rfl, HO.out, World.grownBy.refl _ _⟩
    case round =>
      obtain ⟨k, hk, rfl, hown, hgr⟩ := hrel
      by_cases hlt : k < n
      · have hc : ∃ u, wr.cell? ⟨g, k, none⟩ = some (.int .i64 u) := by
          rw [hown.out.cellAt k (by omega)]
          unfold ints
          rw [List.getElem?_map, List.getElem?_append_right (by simp), List.length_replicate, Nat.sub_self, List.getElem?_drop, Nat.add_zero]
          rw [List.getElem?_eq_getElem (by rw [HX.out]; omega)]
          exact ⟨_, rfl⟩
        obtain ⟨u, hc⟩ := hc
        have hf := hown.out.frozenAt k
        have hst := hown.out.stored k (.int .i64 m)
        rw [rep_set k n m xs HX.out hlt] at hst
        have HS := hideIt hst
        have hkk : (0 : Int) ≤ (k : Int) := by omega
        have hkl : (k : Int) < (n : Int) := by omega
        clear hst hown
        go_wp2
        go_roundw
        case rel => exact ⟨k + 1, by omega, by go_num, HS.out.1, grown_trans hgr HS.out.2⟩
        case measure => simp [intOf]; omega
      · have hfull : Hid (wr.ownsRow B 3 1 (.slice (some ⟨g, 0, none⟩) n cap) n (ints (List.replicate n m))) := by
          have h1 := hown.out
          obtain rfl : k = n := by omega
          rw [List.drop_of_length_le (by rw [HX.out]; omega), List.append_nil] at h1
          exact h1
        have hgs2 := hgr.size
        clear hown
        by_cases hcp : n + 1 ≤ cap
        · go_wp2_with (at_builtin; refine wpList_append_fits _ rfl _ _ 22 rfl B 3 i0 1 Tryd.underlying22 hi0 hz1 g n cap (ints (List.replicate n m)) rfl (hfull.out.alloc _) ⟨wr.heap.size, 0, none⟩ 1 1 [.int .i64 m] rfl rfl (news_one _ _ _) (by simp [Value.oneCell']) hcp ?_; intro w1 hown hgrow)
          go_ret
          rw [ints_rep] at hown
          refine ⟨_, rfl, owns_shorter hown, owns_rd (B := B) (by rw [List.length_replicate]; exact hown), grown_trans hgr (grown_trans (World.grownBy_alloc wr _ _) hgrow), fun q hq => ?_⟩
          exact ⟨Or.inl hq, (hown.lt q hq).2⟩
        · go_wp2_with (at_builtin; refine wpList_append_grows _ rfl _ _ 22 rfl 3 i0 (.int .i64 0) 1 8 Tryd.underlying22 hi0 hz0 hz1 hz2 rfl (by decide) (some ⟨g, 0, none⟩) n cap (ints (List.replicate n m)) rfl (fun hb => by cases hb) (by rw [len_ints, List.length_replicate]; omega) (fun b hb j u hj => by cases hb; exact (hfull.out.alloc _).cells (g := g) rfl j u hj) ⟨wr.heap.size, 0, none⟩ 1 1 [.int .i64 m] rfl rfl (news_one _ _ _) (by simp [Value.oneCell']) (by omega) (by unfold maxLen; omega) (by omega) ?_; intro v1 w1 hown hgrow)
          go_ret
          rw [ints_rep] at hown
          have hR0 := owns_rd (xs := List.replicate n m) (by rw [List.length_replicate]; exact hfull.out)
          refine ⟨_, rfl, ?_, owns_rd (B := (wr.alloc (.cells #[.int .i64 m] 3)).heap.size) (by rw [List.length_replicate]; exact hown), grown_trans hgr (grown_trans (World.grownBy_alloc wr _ _) ⟨hgrow.os, hgrow.tape, hgrow.output, hgrow.size, fun i hi _ => hgrow.block i hi (by simp)⟩), fun q hq => ?_⟩
          · exact (hR0.alloc _).below ⟨hgrow.os, hgrow.tape, hgrow.output, hgrow.size, fun i hi => hgrow.block i hi (by simp)⟩
          · obtain ⟨l1, l2⟩ := hown.lt q hq
            exact ⟨Or.inr (by simp at l1; omega), l2⟩
end Go.Proofs.YtajobgmnmbnhiaaDoor.Sap

/- WHAT IS PROVED HERE: saplingkeep.pick answers a number from 0 on, below its second argument; plain facts on rising lists. Conditions: the first is an int, the second 1 to 10000. -/
namespace Go.Proofs.YtajobgmnmbnhiaaDoor.Sap
open Go.RowKit

theorem keysOk_snoc (hi l k : Int) (ks : List Int) (h : keysOk hi l ks = true) (h1 : ∀ x ∈ ks, x < k) (h2 : l ≤ k) (h3 : k < hi) : keysOk hi l (ks ++ [k]) = true := by
  induction ks generalizing l with
  | nil => simp [keysOk, h2, h3]
  | cons x r ih =>
    simp only [keysOk, Bool.and_eq_true, decide_eq_true_eq] at h
    simp only [List.cons_append, keysOk, Bool.and_eq_true, decide_eq_true_eq]
    have hx := h1 x (by simp)
    exact ⟨h.1, h.2.1, ih (x + 1) h.2.2 (fun y hy => h1 y (by simp [hy])) (by omega)⟩

theorem keysOk_weak (hi l l' : Int) (ks : List Int) (h : keysOk hi l ks = true) (hl : l' ≤ l) : keysOk hi l' ks = true := by
  cases ks with
  | nil => rfl
  | cons x r =>
    simp only [keysOk, Bool.and_eq_true, decide_eq_true_eq] at h ⊢
    exact ⟨by omega, h.2⟩

theorem keysOk_insert (hi l k : Int) (xs : List Int) (at' : Nat) (h : keysOk hi l xs = true) (hat : at' ≤ xs.length) (h1 : ∀ i, i < at' → xs[i]?.getD 0 < k) (h2 : at' < xs.length → k < xs[at']?.getD 0) (h3 : l ≤ k) (h4 : k < hi) :
    keysOk hi l (xs.take at' ++ k :: xs.drop at') = true := by
  induction at' generalizing xs l with
  | zero =>
    simp only [List.take_zero, List.nil_append, List.drop_zero, keysOk, Bool.and_eq_true, decide_eq_true_eq]
    refine ⟨h3, h4, ?_⟩
    cases xs with
    | nil => rfl
    | cons x r =>
      have hx := h2 (by simp)
      simp only [List.getElem?_cons_zero, Option.getD_some] at hx
      simp only [keysOk, Bool.and_eq_true, decide_eq_true_eq] at h ⊢
      exact ⟨by omega, h.2⟩
  | succ n ih =>
    cases xs with
    | nil => simp at hat
    | cons x r =>
      simp only [keysOk, Bool.and_eq_true, decide_eq_true_eq] at h
      have hx := h1 0 (by omega)
      simp only [List.getElem?_cons_zero, Option.getD_some] at hx
      simp only [List.take_succ_cons, List.drop_succ_cons, List.cons_append, keysOk, Bool.and_eq_true, decide_eq_true_eq]
      refine ⟨h.1, h.2.1, ih (x + 1) r h.2.2 (by simpa using hat) (fun i hi' => ?_) (fun hn => ?_) (by omega)⟩
      · have := h1 (i + 1) (by omega); simpa using this
      · have := h2 (by simpa using hn); simpa using this

theorem keysOk_lt (hi l : Int) (xs : List Int) (h : keysOk hi l xs = true) (i j : Nat) (hij : i < j) (hj : j < xs.length) : xs[i]?.getD 0 < xs[j]?.getD 0 := by
  induction xs generalizing l i j with
  | nil => simp at hj
  | cons x r ih =>
    simp only [keysOk, Bool.and_eq_true, decide_eq_true_eq] at h
    cases j with
    | zero => omega
    | succ j =>
      cases i with
      | zero =>
        have hb : ∀ (l : Int) (r : List Int) (j : Nat), keysOk hi l r = true → j < r.length → l ≤ r[j]?.getD 0 := by
          intro l r
          induction r generalizing l with
          | nil => intro j _ hj; simp at hj
          | cons y t ih2 =>
            intro j hk hj
            simp only [keysOk, Bool.and_eq_true, decide_eq_true_eq] at hk
            cases j with
            | zero => simpa using hk.1
            | succ j => have := ih2 (y + 1) j hk.2.2 (by simpa using hj); simp; omega
        have := hb (x + 1) r j h.2.2 (by simpa using hj)
        simp; omega
      | succ i =>
        have := ih (x + 1) h.2.2 i j (by omega) (by simpa using hj)
        simpa using this

def pickV (c n : Int) : Int := if c < 0 then (-(c + 1)) % n else c % n
theorem pickV_bd (c n : Int) (h : 1 ≤ n) : 0 ≤ pickV c n ∧ pickV c n < n := by
  unfold pickV
  split
  · exact ⟨Int.emod_nonneg _ (by omega), Int.emod_lt_of_pos _ (by omega)⟩
  · exact ⟨Int.emod_nonneg _ (by omega), Int.emod_lt_of_pos _ (by omega)⟩

set_option maxRecDepth 100000 in
set_option maxHeartbeats 800000 in
theorem pick_exact (c n : Int) (w : World) (h0 : -9223372036854775808 ≤ c) (h1 : c ≤ 9223372036854775807) (hn1 : 1 ≤ n) (hn2 : n ≤ 10000) :
    Calls Tryd.prog 36 #[.int .i64 c, .int .i64 n] w fun e w' => e = .returned (.int .i64 (pickV c n)) ∧ w' = w := by
  have hnz : (n == 0) = false := by simp; omega
  by_cases hc : c < 0
  · have HP : Hid (pickV c n = -(c + 1).tmod n) := by unfold Hid pickV; rw [if_pos hc, ← Int.neg_tmod, Int.tmod_eq_emod_of_nonneg (by omega)]
    go_enter Tryd.func36, Tryd.ntmps36
    go_wp2
    go_ret
    exact ⟨ret_int HP.out.symm, rfl⟩
  · have HP : Hid (pickV c n = c % n) := by unfold Hid pickV; rw [if_neg hc]
    go_enter Tryd.func36, Tryd.ntmps36
    go_wp2
    go_ret
    exact ⟨ret_int HP.out.symm, rfl⟩
theorem pick_any (c n : Int) (w : World) (h0 : -9223372036854775808 ≤ c) (h1 : c ≤ 9223372036854775807) (hn1 : 1 ≤ n) (hn2 : n ≤ 10000) :
    Calls Tryd.prog 36 #[.int .i64 c, .int .i64 n] w fun e w' => (∃ r, e = .returned (.int .i64 r) ∧ 0 ≤ r ∧ r < n) ∧ w' = w := by
  refine (pick_exact c n w h0 h1 hn1 hn2).mono ?_
  rintro e w' ⟨rfl, rfl⟩
  exact ⟨⟨_, rfl, pickV_bd c n hn1⟩, rfl⟩

set_option maxRecDepth 100000 in
set_option maxHeartbeats 1600000 in
theorem same_yes (lv lk hi : Int) (ks vs : List Int) (ka va kb vb : Value) (w : World) (h1 : Rd w ka ks) (h2 : Rd w va vs) (h3 : Rd w kb ks) (h4 : Rd w vb vs) (hk : ks.length ≤ 17592186044416) (hkv : ks.length = vs.length) :
    Calls Tryd.prog 24 #[.agg #[.int .i64 lv, .int .i64 lk, .int .i64 hi, ka, va], .agg #[.int .i64 lv, .int .i64 lk, .int .i64 hi, kb, vb]] w fun e w' => e = .returned (.bool true) ∧ Below w.heap.size w w' := by
  have H1 := hideIt h1
  have H2 := hideIt h2
  have H3 := hideIt h3
  have H4 := hideIt h4
  obtain ⟨a1, c1, rfl⟩ := h1.len
  obtain ⟨a2, c2, rfl⟩ := h2.len
  obtain ⟨a3, c3, rfl⟩ := h3.len
  obtain ⟨a4, c4, rfl⟩ := h4.len
  obtain ⟨m, hm⟩ : ∃ m, ks.length = m := ⟨_, rfl⟩
  rw [← hkv] at H2 H4 ⊢
  rw [hm] at H1 H2 H3 H4 hk ⊢
  clear h1 h2 h3 h4 hm hkv
  go_enter Tryd.func24, Tryd.ntmps24
  go_wp2
  go_loopw [5] (fun i wr => ∃ k d : Nat, k ≤ m ∧ i = .int .i64 k ∧ wr = ((w.alloc (.cells #[.int .i64 lv, .int .i64 lk, .int .i64 hi, .slice a1 m c1, .slice a2 m c2] 24)).alloc (.cells #[.int .i64 lv, .int .i64 lk, .int .i64 hi, .slice a3 m c3, .slice a4 m c4] 24)).drewN d) (fun i _ => m - (intOf i).toNat)
  case atStart => exact ⟨0, 0, Nat.zero_le _, rfl, rfl⟩
  case round =>
    obtain ⟨k, d, hk, rfl, rfl⟩ := hrel
    by_cases hlt : k < m
    · obtain ⟨b1, o1, rfl, -, x1⟩ := H1.out.elem k hlt
      obtain ⟨b2, o2, rfl, -, x2⟩ := H2.out.elem k hlt
      obtain ⟨b3, o3, rfl, -, x3⟩ := H3.out.elem k hlt
      obtain ⟨b4, o4, rfl, -, x4⟩ := H4.out.elem k hlt
      have y1 : ∀ p q, ((w.alloc p).alloc q).cell? ⟨b1, o1 + k, none⟩ = some (.int .i64 (ks[k]?.getD 0)) := fun p q => x1 _ (below_alloc2 w p q)
      have y2 : ∀ p q, ((w.alloc p).alloc q).cell? ⟨b2, o2 + k, none⟩ = some (.int .i64 (vs[k]?.getD 0)) := fun p q => x2 _ (below_alloc2 w p q)
      have y3 : ∀ p q, ((w.alloc p).alloc q).cell? ⟨b3, o3 + k, none⟩ = some (.int .i64 (ks[k]?.getD 0)) := fun p q => x3 _ (below_alloc2 w p q)
      have y4 : ∀ p q, ((w.alloc p).alloc q).cell? ⟨b4, o4 + k, none⟩ = some (.int .i64 (vs[k]?.getD 0)) := fun p q => x4 _ (below_alloc2 w p q)
      have hkk : (0 : Int) ≤ (k : Int) := by omega
      have hkl : (k : Int) < (m : Int) := by omega
      clear x1 x2 x3 x4
      go_wp2
      go_quiet (fail)
      go_wp2
      go_roundw
      case rel => exact ⟨k + 1, _, by omega, by go_num, rfl⟩
      case measure => simp [intOf]; omega
    · go_wp2
      go_ret
      have hb := below_alloc2 w (.cells #[.int .i64 lv, .int .i64 lk, .int .i64 hi, .slice a1 m c1, .slice a2 m c2] 24) (.cells #[.int .i64 lv, .int .i64 lk, .int .i64 hi, .slice a3 m c3, .slice a4 m c4] 24)
      exact ⟨rfl, ⟨hb.os, hb.tape, hb.output, hb.size, hb.block⟩⟩
end Go.Proofs.YtajobgmnmbnhiaaDoor.Sap

/- WHAT IS PROVED HERE: saplingkeep.sorted answers at most 120 keys that rise, in a new list of its own. Conditions: the list that is handed in holds ints and is no longer than memory bears. -/
namespace Go.Proofs.YtajobgmnmbnhiaaDoor.Sap
open Go.RowKit

theorem ints_at' (L : List Int) (j : Nat) (h : j < L.length) : (ints L)[j]? = some (.int .i64 (L[j]?.getD 0)) := by simp [ints, h]

theorem own_elem {w : World} {B m cap : Nat} {ao : Option Addr} {L : List Int} (h : w.ownsRow B 3 1 (.slice ao m cap) m (ints L)) (j : Nat) (hj : j < m) :
    ∃ g, ao = some ⟨g, 0, none⟩ ∧ w.cell? ⟨g, j, none⟩ = some (.int .i64 (L[j]?.getD 0)) ∧ w.frozen? ⟨g, j, none⟩ = false := by
  have hl : L.length = m := by have := h.1; rw [len_ints] at this; omega
  rcases h.2 with ⟨h', h2⟩ | ⟨g, cap', cur, h', _⟩
  · omega
  · simp only [Value.slice.injEq, true_and] at h'
    obtain ⟨rfl, rfl⟩ := h'
    exact ⟨g, rfl, by rw [h.cellAt j (by omega), ints_at' L j (by omega)], h.frozenAt j⟩

theorem shift_set (L : List Int) (j : Nat) (y : Int) (hj : j + 1 ≤ L.length) :
    (ints (L.take (j + 1) ++ y :: L.drop (j + 1))).set (j + 1) (.int .i64 (L[j]?.getD 0)) = ints (L.take j ++ (L[j]?.getD 0) :: L.drop j) := by
  unfold ints
  rw [← List.map_set (f := Value.int .i64) (a := L[j]?.getD 0)]
  congr 1
  have hl : (L.take (j + 1)).length = j + 1 := by rw [List.length_take]; omega
  rw [List.set_append_right _ _ (by omega), hl, Nat.sub_self, List.set_cons_zero]
  rw [List.take_succ_eq_append_getElem (by omega), List.append_assoc]
  have e : L[j]?.getD 0 = L[j]'(by omega) := by simp [show j < L.length by omega]
  rw [e, ← List.drop_eq_getElem_cons (by omega : j < L.length)]
  rfl
theorem shift_end (L : List Int) (j : Nat) (y k : Int) (hj : j ≤ L.length) :
    (ints (L.take j ++ y :: L.drop j)).set j (.int .i64 k) = ints (L.take j ++ k :: L.drop j) := by
  unfold ints
  rw [← List.map_set (f := Value.int .i64) (a := k)]
  congr 1
  have hl : (L.take j).length = j := by rw [List.length_take]; omega
  rw [List.set_append_right _ _ (by omega), hl, Nat.sub_self, List.set_cons_zero]
theorem shift_at (L : List Int) (j : Nat) (y : Int) (hj : j + 1 ≤ L.length) : (L.take (j + 1) ++ y :: L.drop (j + 1))[j]?.getD 0 = L[j]?.getD 0 := by
  have hl : (L.take (j + 1)).length = j + 1 := by rw [List.length_take]; omega
  rw [List.getElem?_append_left (by omega), List.getElem?_take, if_pos (by omega)]
theorem len_shift (L : List Int) (j : Nat) (y : Int) (hj : j ≤ L.length) : (L.take j ++ y :: L.drop j).length = L.length + 1 := by
  rw [List.length_append, List.length_cons, List.length_take, List.length_drop]; omega

set_option maxRecDepth 100000 in
set_option maxHeartbeats 3200000 in
theorem sorted_any (raw : Value) (rs : List Int) (w : World) (h : Rd w raw rs) (hn : rs.length ≤ 17592186044416) (hwf : ∀ x ∈ rs, -9223372036854775808 ≤ x ∧ x ≤ 9223372036854775807) :
    Calls Tryd.prog 51 #[raw] w fun e w' => ∃ v L, e = .returned v ∧ w'.ownsRow w.heap.size 3 1 v L.length (ints L) ∧ keysOk 10000 1 L = true ∧ L.length ≤ 120 ∧ Below w.heap.size w w' := by
  obtain ⟨i0, hi0, hz0, hz1, hz2⟩ := info_parts infoInt
  have HR := hideIt h
  obtain ⟨ar, cr, rfl⟩ := h.len
  obtain ⟨n, hnn⟩ : ∃ n, rs.length = n := ⟨_, rfl⟩
  rw [hnn] at HR hn ⊢
  have HW := hideIt hwf
  clear h hnn hwf
  go_enter Tryd.func51, Tryd.ntmps51
  go_wp2
  go_loopw [3, 4] (fun o i wr => ∃ (k : Nat) (L : List Int), k ≤ n ∧ i = .int .i64 k ∧ Hid (wr.ownsRow w.heap.size 3 1 o L.length (ints L)) ∧ Hid (keysOk 10000 1 L = true) ∧ L.length ≤ 120 ∧ Below w.heap.size w wr) (fun _ i _ => n - (intOf i).toNat)
  case atStart => exact ⟨0, [], Nat.zero_le _, rfl, World.ownsRow_nil _ _ _ _, rfl, by simp, Below.refl _ _⟩
  case round =>
    obtain ⟨k, L, hk, rfl, hown, hok, hlen, hbw⟩ := hrel
    obtain ⟨ao, cap, rfl⟩ := own_form hown.out
    obtain ⟨m, hm⟩ : ∃ m, L.length = m := ⟨_, rfl⟩
    rw [hm] at hown hlen ⊢
    have HM := hideIt hm
    clear hm
    have hsw := hbw.size
    by_cases hlt : k < n
    · by_cases hl2 : m < 120
      · obtain ⟨b, off, rfl, hkl, hc⟩ := HR.out.elem k hlt
        have hx := HW.out _ (mem_at hkl)
        have hcell := hc wr hbw
        obtain ⟨x, hxe⟩ : ∃ x, rs[k]?.getD 0 = x := ⟨_, rfl⟩
        rw [hxe] at hx hcell
        obtain ⟨hx1, hx2⟩ := hx
        clear hc hkl hxe
        have hkk : (0 : Int) ≤ (k : Int) := by omega
        have hkl2 : (k : Int) < (n : Int) := by omega
        go_wp2_with fail
        refine (pick_any x 9999 _ hx1 hx2 (by omega) (by omega)).mono ?_
        rintro e w1 ⟨⟨r, rfl, hr0, hr1⟩, rfl⟩
        clear hx1 hx2 hcell
        go_wp2_with fail
        go_loop [6] (fun av => ∃ a : Nat, a ≤ m ∧ av = .int .i64 a ∧ Hid (∀ i, i < a → L[i]?.getD 0 < 1 + r)) (fun av => m - (intOf av).toNat)
        case atStart => exact ⟨0, Nat.zero_le _, rfl, fun i hi => by omega⟩
        case round =>
          obtain ⟨a, ha, rfl, hlo⟩ := hrel
          by_cases hal : a < m
          · obtain ⟨g, rfl, hcell, -⟩ := own_elem hown.out a hal
            have ha0 : (0 : Int) ≤ (a : Int) := by omega
            have ha1 : (a : Int) < (m : Int) := by omega
            obtain ⟨z, hz⟩ : ∃ z, L[a]?.getD 0 = z := ⟨_, rfl⟩
            rw [hz] at hcell
            have HZ := hideIt hz
            clear hz
            by_cases hzk : z < 1 + r
            · go_wp2
              go_round
              case rel =>
                refine ⟨a + 1, by omega, by go_num, fun i hi => ?_⟩
                rcases Nat.lt_or_ge i a with h' | h'
                · exact hlo.out i h'
                · obtain rfl : i = a := by omega
                  rw [HZ.out]; exact hzk
              case measure => simp [intOf]; omega
            · by_cases hze : z = 1 + r
              · have hzb : (z == 1 + r) = true := by simp [hze]
                have hzl : z ≤ 1 + r := by omega
                have hzg : 1 + r ≤ z := by omega
                clear hze
                go_wp2
                go_roundw
                case rel => exact ⟨k + 1, L, by omega, by go_num, by unfold Hid; rw [HM.out]; exact hown.out, hok, by rw [HM.out]; exact hlen, hbw⟩
                case measure => simp [intOf]; omega
              · have hzb : (z == 1 + r) = false := by simp [hze]
                have hzg : 1 + r < z := by omega
                have hup : Hid (a < L.length → 1 + r < L[a]?.getD 0) := fun _ => by rw [HZ.out]; exact hzg
                clear hze
                have hsz := hbw.size
                go_wp2_with (at_builtin; refine wpList_append_own_at _ rfl _ _ 22 rfl w.heap.size 3 i0 (.int .i64 0) 1 8 Tryd.underlying22 hi0 hz0 hz1 hz2 rfl (by decide) _ m (ints L) rfl (hown.out.alloc _) ⟨w1.heap.size, 0, none⟩ 1 1 [.int .i64 0] rfl rfl (news_one _ _ _) (by simp [Value.oneCell']) (by unfold maxLen; omega) (by omega) (by simp; omega) ?_; intro v1 w2 hown1 hgrow _ _; obtain ⟨ao1, cp1, rfl⟩ := own_form hown1; rw [← ints_snoc] at hown1; obtain ⟨g1, rfl, -, -⟩ := own_elem hown1 0 (by omega); have HO1 := hideIt hown1; have hb2 : Below w.heap.size w w2 := (hbw.alloc hbw.size _).grown hgrow (by simp; omega) (fun q hq => (hown.out.lt q hq).1); clear hown1 hgrow)
                go_loopw [7] (fun jv wq => ∃ (j : Nat) (y : Int), a ≤ j ∧ j ≤ m ∧ jv = .int .i64 j ∧ Hid (wq.ownsRow w.heap.size 3 1 (.slice (some ⟨g1, 0, none⟩) (m + 1) cp1) (m + 1) (ints (L.take j ++ y :: L.drop j))) ∧ Below w.heap.size w wq) (fun jv _ => (intOf jv).toNat)
                case atStart => exact ⟨m, 0, ha, Nat.le_refl _, by go_num, by unfold Hid; rw [List.take_of_length_le (by rw [HM.out]; omega), List.drop_of_length_le (by rw [HM.out]; omega)]; exact HO1.out, hb2⟩
                case round =>
                  obtain ⟨j, y, hj1, hj2, rfl, hrow, hbq⟩ := hrel
                  by_cases hjl : a < j
                  · obtain ⟨j, rfl⟩ : ∃ j', j = j' + 1 := ⟨j - 1, by omega⟩
                    obtain ⟨g2, e2, q1, -⟩ := own_elem hrow.out j (by omega)
                    obtain ⟨g3, e3, q2, f2⟩ := own_elem hrow.out (j + 1) (by omega)
                    simp only [Option.some.injEq, Addr.mk.injEq] at e2 e3
                    obtain ⟨rfl, -, -⟩ := e2
                    obtain ⟨rfl, -, -⟩ := e3
                    rw [shift_at L j y (by rw [HM.out]; omega)] at q1
                    have hst := hrow.out.stored (j + 1) (.int .i64 (L[j]?.getD 0))
                    rw [shift_set L j y (by rw [HM.out]; omega)] at hst
                    have HS := hideIt hst
                    have hj3 : (0 : Int) ≤ (j : Int) := by omega
                    have hj4 : (j : Int) < (m : Int) + 1 := by omega
                    have hj5 : (j : Int) + 1 < (m : Int) + 1 := by omega
                    have hbs := hbq.size
                    clear hst hrow
                    go_wp2
                    go_roundw
                    case rel => exact ⟨j, L[j]?.getD 0, by omega, by omega, by go_num, HS.out.1, hbq.grown HS.out.2 hbq.size (fun q hq => by cases hq; exact (HS.out.1.lt g1 rfl).1)⟩
                    case measure => simp [intOf]
                  · obtain rfl : j = a := by omega
                    obtain ⟨g2, e2, q1, f1⟩ := own_elem hrow.out j (by omega)
                    simp only [Option.some.injEq, Addr.mk.injEq] at e2
                    obtain ⟨rfl, -, -⟩ := e2
                    have hst := hrow.out.stored j (.int .i64 (1 + r))
                    rw [shift_end L j y (1 + r) (by rw [HM.out]; omega)] at hst
                    have HS := hideIt hst
                    have hj3 : (0 : Int) ≤ (j : Int) := by omega
                    have hj4 : (j : Int) < (m : Int) + 1 := by omega
                    have hin := hideIt (keysOk_insert 10000 1 (1 + r) L j hok.out (by rw [HM.out]; omega) hlo.out hup.out (by omega) (by omega))
                    clear hst hrow
                    go_wp2
                    go_roundw
                    case rel => exact ⟨k + 1, L.take j ++ (1 + r) :: L.drop j, by omega, by go_num, by unfold Hid; rw [len_shift L j _ (by rw [HM.out]; omega), HM.out]; exact HS.out.1, hin, by rw [len_shift L j _ (by rw [HM.out]; omega), HM.out]; omega, hbq.grown HS.out.2 hbq.size (fun q hq => by cases hq; exact (HS.out.1.lt g1 rfl).1)⟩
                    case measure => simp [intOf]; omega
          · have hup : Hid (a < L.length → 1 + r < L[a]?.getD 0) := fun h' => by rw [HM.out] at h'; exact absurd h' hal
            have hsz := hbw.size
            go_wp2_with (at_builtin; refine wpList_append_own_at _ rfl _ _ 22 rfl w.heap.size 3 i0 (.int .i64 0) 1 8 Tryd.underlying22 hi0 hz0 hz1 hz2 rfl (by decide) _ m (ints L) rfl (hown.out.alloc _) ⟨w1.heap.size, 0, none⟩ 1 1 [.int .i64 0] rfl rfl (news_one _ _ _) (by simp [Value.oneCell']) (by unfold maxLen; omega) (by omega) (by simp; omega) ?_; intro v1 w2 hown1 hgrow _ _; obtain ⟨ao1, cp1, rfl⟩ := own_form hown1; rw [← ints_snoc] at hown1; obtain ⟨g1, rfl, -, -⟩ := own_elem hown1 0 (by omega); have HO1 := hideIt hown1; have hb2 : Below w.heap.size w w2 := (hbw.alloc hbw.size _).grown hgrow (by simp; omega) (fun q hq => (hown.out.lt q hq).1); clear hown1 hgrow)
            go_loopw [7] (fun jv wq => ∃ (j : Nat) (y : Int), a ≤ j ∧ j ≤ m ∧ jv = .int .i64 j ∧ Hid (wq.ownsRow w.heap.size 3 1 (.slice (some ⟨g1, 0, none⟩) (m + 1) cp1) (m + 1) (ints (L.take j ++ y :: L.drop j))) ∧ Below w.heap.size w wq) (fun jv _ => (intOf jv).toNat)
            case atStart => exact ⟨m, 0, ha, Nat.le_refl _, by go_num, by unfold Hid; rw [List.take_of_length_le (by rw [HM.out]; omega), List.drop_of_length_le (by rw [HM.out]; omega)]; exact HO1.out, hb2⟩
            case round =>
              obtain ⟨j, y, hj1, hj2, rfl, hrow, hbq⟩ := hrel
              by_cases hjl : a < j
              · omega
              · obtain rfl : j = a := by omega
                obtain ⟨g2, e2, q1, f1⟩ := own_elem hrow.out j (by omega)
                simp only [Option.some.injEq, Addr.mk.injEq] at e2
                obtain ⟨rfl, -, -⟩ := e2
                have hst := hrow.out.stored j (.int .i64 (1 + r))
                rw [shift_end L j y (1 + r) (by rw [HM.out]; omega)] at hst
                have HS := hideIt hst
                have hj3 : (0 : Int) ≤ (j : Int) := by omega
                have hj4 : (j : Int) < (m : Int) + 1 := by omega
                have hin := hideIt (keysOk_insert 10000 1 (1 + r) L j hok.out (by rw [HM.out]; omega) hlo.out hup.out (by omega) (by omega))
                clear hst hrow
                go_wp2
                go_roundw
                case rel => exact ⟨k + 1, L.take j ++ (1 + r) :: L.drop j, by omega, by go_num, by unfold Hid; rw [len_shift L j _ (by rw [HM.out]; omega), HM.out]; exact HS.out.1, hin, by rw [len_shift L j _ (by rw [HM.out]; omega), HM.out]; omega, hbq.grown HS.out.2 hbq.size (fun q hq => by cases hq; exact (HS.out.1.lt g1 rfl).1)⟩
                case measure => simp [intOf]; omega
      · go_wp2
        go_ret
        exact ⟨_, L, rfl, by rw [HM.out]; exact hown.out, hok.out, by rw [HM.out]; exact hlen, hbw⟩
    · go_wp2
      go_ret
      exact ⟨_, L, rfl, by rw [HM.out]; exact hown.out, hok.out, by rw [HM.out]; exact hlen, hbw⟩
end Go.Proofs.YtajobgmnmbnhiaaDoor.Sap
