/- WHAT IS PROVED HERE: saplingkeep.sorted answers at most 120 keys that rise, in a new list of its own. Conditions: the list that is handed in holds ints and is no longer than memory bears. -/
import Derived.Test.YtajobgmnmbnhiaaGreatDoorXW5Mem
import Derived.Test.YtajobgmnmbnhiaaGreatDoorXW13R1
namespace Go.Proofs.YtajobgmnmbnhiaaGreatDoor.Sap
open Go.RowKit

theorem ints_at' (L : List Int) (j : Nat) (h : j < L.length) : (ints L)[j]? = some (.int .i64 (L[j]?.getD 0)) := by simp [ints, h]

theorem own_elem {w : World} {B m cap : Nat} {ao : Option Addr} {L : List Int} (h : w.ownsRow B 3 1 (.slice ao m cap) m (ints L)) (j : Nat) (hj : j < m) :
    ∃ g, ao = some ⟨g, 0, none⟩ ∧ w.cell? ⟨g, j, none⟩ = some (.int .i64 (L[j]?.getD 0)) ∧ w.frozen? ⟨g, j, none⟩ = false := by
  have hl : L.length = m := by have := h.1; rw [len_ints] at this; omega
  rcases h.2 with ⟨h', h2⟩ | ⟨g, cap', cur, h', _⟩
  · omega
  · simp only [Value.slice.injEq, true_and] at h'
    obtain ⟨rfl, rfl⟩ := h'
    exact ⟨g, rfl, by rw [h.cellAt j (by omega), ints_at' L j (by omega)], h.frozenAt j⟩

theorem shift_set (L : List Int) (j : Nat) (y : Int) (hj : j + 1 ≤ L.length) :
    (ints (L.take (j + 1) ++ y :: L.drop (j + 1))).set (j + 1) (.int .i64 (L[j]?.getD 0)) = ints (L.take j ++ (L[j]?.getD 0) :: L.drop j) := by
  unfold ints
  rw [← List.map_set (f := Value.int .i64) (a := L[j]?.getD 0)]
  congr 1
  have hl : (L.take (j + 1)).length = j + 1 := by rw [List.length_take]; omega
  rw [List.set_append_right _ _ (by omega), hl, Nat.sub_self, List.set_cons_zero]
  rw [List.take_succ_eq_append_getElem (by omega), List.append_assoc]
  have e : L[j]?.getD 0 = L[j]'(by omega) := by simp [show j < L.length by omega]
  rw [e, ← List.drop_eq_getElem_cons (by omega : j < L.length)]
  rfl
theorem shift_end (L : List Int) (j : Nat) (y k : Int) (hj : j ≤ L.length) :
    (ints (L.take j ++ y :: L.drop j)).set j (.int .i64 k) = ints (L.take j ++ k :: L.drop j) := by
  unfold ints
  rw [← List.map_set (f := Value.int .i64) (a := k)]
  congr 1
  have hl : (L.take j).length = j := by rw [List.length_take]; omega
  rw [List.set_append_right _ _ (by omega), hl, Nat.sub_self, List.set_cons_zero]
theorem shift_at (L : List Int) (j : Nat) (y : Int) (hj : j + 1 ≤ L.length) : (L.take (j + 1) ++ y :: L.drop (j + 1))[j]?.getD 0 = L[j]?.getD 0 := by
  have hl : (L.take (j + 1)).length = j + 1 := by rw [List.length_take]; omega
  rw [List.getElem?_append_left (by omega), List.getElem?_take, if_pos (by omega)]
theorem len_shift (L : List Int) (j : Nat) (y : Int) (hj : j ≤ L.length) : (L.take j ++ y :: L.drop j).length = L.length + 1 := by
  rw [List.length_append, List.length_cons, List.length_take, List.length_drop]; omega

set_option maxRecDepth 100000 in
set_option maxHeartbeats 3200000 in
theorem sorted_any (raw : Value) (rs : List Int) (w : World) (h : Rd w raw rs) (hn : rs.length ≤ 17592186044416) (hwf : ∀ x ∈ rs, -9223372036854775808 ≤ x ∧ x ≤ 9223372036854775807) :
    Calls Tryz.prog 22 #[raw] w fun e w' => ∃ v L, e = .returned v ∧ w'.ownsRow w.heap.size 3 1 v L.length (ints L) ∧ keysOk 10000 1 L = true ∧ L.length ≤ 120 ∧ Below w.heap.size w w' := by
  obtain ⟨i0, hi0, hz0, hz1, hz2⟩ := info_parts infoInt
  have HR := hideIt h
  obtain ⟨ar, cr, rfl⟩ := h.len
  obtain ⟨n, hnn⟩ : ∃ n, rs.length = n := ⟨_, rfl⟩
  rw [hnn] at HR hn ⊢
  have HW := hideIt hwf
  clear h hnn hwf
  go_enter Tryz.func22, Tryz.ntmps22
  go_wp2
  go_loopw [3, 4] (fun o i wr => ∃ (k : Nat) (L : List Int), k ≤ n ∧ i = .int .i64 k ∧ Hid (wr.ownsRow w.heap.size 3 1 o L.length (ints L)) ∧ Hid (keysOk 10000 1 L = true) ∧ L.length ≤ 120 ∧ Below w.heap.size w wr) (fun _ i _ => n - (intOf i).toNat)
  case atStart => exact ⟨0, [], Nat.zero_le _, rfl, World.ownsRow_nil _ _ _ _, rfl, by simp, Below.refl _ _⟩
  case round =>
    obtain ⟨k, L, hk, rfl, hown, hok, hlen, hbw⟩ := hrel
    obtain ⟨ao, cap, rfl⟩ := own_form hown.out
    obtain ⟨m, hm⟩ : ∃ m, L.length = m := ⟨_, rfl⟩
    rw [hm] at hown hlen ⊢
    have HM := hideIt hm
    clear hm
    have hsw := hbw.size
    by_cases hlt : k < n
    · by_cases hl2 : m < 120
      · obtain ⟨b, off, rfl, hkl, hc⟩ := HR.out.elem k hlt
        have hx := HW.out _ (mem_at hkl)
        have hcell := hc wr hbw
        obtain ⟨x, hxe⟩ : ∃ x, rs[k]?.getD 0 = x := ⟨_, rfl⟩
        rw [hxe] at hx hcell
        obtain ⟨hx1, hx2⟩ := hx
        clear hc hkl hxe
        have hkk : (0 : Int) ≤ (k : Int) := by omega
        have hkl2 : (k : Int) < (n : Int) := by omega
        go_wp2_with fail
        refine (pick_any x 9999 _ hx1 hx2 (by omega) (by omega)).mono ?_
        rintro e w1 ⟨⟨r, rfl, hr0, hr1⟩, rfl⟩
        clear hx1 hx2 hcell
        go_wp2_with fail
        go_loop [6] (fun av => ∃ a : Nat, a ≤ m ∧ av = .int .i64 a ∧ Hid (∀ i, i < a → L[i]?.getD 0 < 1 + r)) (fun av => m - (intOf av).toNat)
        case atStart => exact ⟨0, Nat.zero_le _, rfl, fun i hi => by omega⟩
        case round =>
          obtain ⟨a, ha, rfl, hlo⟩ := hrel
          by_cases hal : a < m
          · obtain ⟨g, rfl, hcell, -⟩ := own_elem hown.out a hal
            have ha0 : (0 : Int) ≤ (a : Int) := by omega
            have ha1 : (a : Int) < (m : Int) := by omega
            obtain ⟨z, hz⟩ : ∃ z, L[a]?.getD 0 = z := ⟨_, rfl⟩
            rw [hz] at hcell
            have HZ := hideIt hz
            clear hz
            by_cases hzk : z < 1 + r
            · go_wp2
              go_round
              case rel =>
                refine ⟨a + 1, by omega, by go_num, fun i hi => ?_⟩
                rcases Nat.lt_or_ge i a with h' | h'
                · exact hlo.out i h'
                · obtain rfl : i = a := by omega
                  rw [HZ.out]; exact hzk
              case measure => simp [intOf]; omega
            · by_cases hze : z = 1 + r
              · have hzb : (z == 1 + r) = true := by simp [hze]
                have hzl : z ≤ 1 + r := by omega
                have hzg : 1 + r ≤ z := by omega
                clear hze
                go_wp2
                go_roundw
                case rel => exact ⟨k + 1, L, by omega, by go_num, by unfold Hid; rw [HM.out]; exact hown.out, hok, by rw [HM.out]; exact hlen, hbw⟩
                case measure => simp [intOf]; omega
              · have hzb : (z == 1 + r) = false := by simp [hze]
                have hzg : 1 + r < z := by omega
                have hup : Hid (a < L.length → 1 + r < L[a]?.getD 0) := fun _ => by rw [HZ.out]; exact hzg
                clear hze
                have hsz := hbw.size
                go_wp2_with (at_builtin; refine wpList_append_own_at _ rfl _ _ 22 rfl w.heap.size 3 i0 (.int .i64 0) 1 8 Tryz.underlying22 hi0 hz0 hz1 hz2 rfl (by decide) _ m (ints L) rfl (hown.out.alloc _) ⟨w1.heap.size, 0, none⟩ 1 1 [.int .i64 0] rfl rfl (news_one _ _ _) (by simp [Value.oneCell']) (by unfold maxLen; omega) (by omega) (by simp; omega) ?_; intro v1 w2 hown1 hgrow _ _; obtain ⟨ao1, cp1, rfl⟩ := own_form hown1; rw [← ints_snoc] at hown1; obtain ⟨g1, rfl, -, -⟩ := own_elem hown1 0 (by omega); have HO1 := hideIt hown1; have hb2 : Below w.heap.size w w2 := (hbw.alloc hbw.size _).grown hgrow (by simp; omega) (fun q hq => (hown.out.lt q hq).1); clear hown1 hgrow)
                go_loopw [7] (fun jv wq => ∃ (j : Nat) (y : Int), a ≤ j ∧ j ≤ m ∧ jv = .int .i64 j ∧ Hid (wq.ownsRow w.heap.size 3 1 (.slice (some ⟨g1, 0, none⟩) (m + 1) cp1) (m + 1) (ints (L.take j ++ y :: L.drop j))) ∧ Below w.heap.size w wq) (fun jv _ => (intOf jv).toNat)
                case atStart => exact ⟨m, 0, ha, Nat.le_refl _, by go_num, by unfold Hid; rw [List.take_of_length_le (by rw [HM.out]; omega), List.drop_of_length_le (by rw [HM.out]; omega)]; exact HO1.out, hb2⟩
                case round =>
                  obtain ⟨j, y, hj1, hj2, rfl, hrow, hbq⟩ := hrel
                  by_cases hjl : a < j
                  · obtain ⟨j, rfl⟩ : ∃ j', j = j' + 1 := ⟨j - 1, by omega⟩
                    obtain ⟨g2, e2, q1, -⟩ := own_elem hrow.out j (by omega)
                    obtain ⟨g3, e3, q2, f2⟩ := own_elem hrow.out (j + 1) (by omega)
                    simp only [Option.some.injEq, Addr.mk.injEq] at e2 e3
                    obtain ⟨rfl, -, -⟩ := e2
                    obtain ⟨rfl, -, -⟩ := e3
                    rw [shift_at L j y (by rw [HM.out]; omega)] at q1
                    have hst := hrow.out.stored (j + 1) (.int .i64 (L[j]?.getD 0))
                    rw [shift_set L j y (by rw [HM.out]; omega)] at hst
                    have HS := hideIt hst
                    have hj3 : (0 : Int) ≤ (j : Int) := by omega
                    have hj4 : (j : Int) < (m : Int) + 1 := by omega
                    have hj5 : (j : Int) + 1 < (m : Int) + 1 := by omega
                    have hbs := hbq.size
                    clear hst hrow
                    go_wp2
                    go_roundw
                    case rel => exact ⟨j, L[j]?.getD 0, by omega, by omega, by go_num, HS.out.1, hbq.grown HS.out.2 hbq.size (fun q hq => by cases hq; exact (HS.out.1.lt g1 rfl).1)⟩
                    case measure => simp [intOf]
                  · obtain rfl : j = a := by omega
                    obtain ⟨g2, e2, q1, f1⟩ := own_elem hrow.out j (by omega)
                    simp only [Option.some.injEq, Addr.mk.injEq] at e2
                    obtain ⟨rfl, -, -⟩ := e2
                    have hst := hrow.out.stored j (.int .i64 (1 + r))
                    rw [shift_end L j y (1 + r) (by rw [HM.out]; omega)] at hst
                    have HS := hideIt hst
                    have hj3 : (0 : Int) ≤ (j : Int) := by omega
                    have hj4 : (j : Int) < (m : Int) + 1 := by omega
                    have hin := hideIt (keysOk_insert 10000 1 (1 + r) L j hok.out (by rw [HM.out]; omega) hlo.out hup.out (by omega) (by omega))
                    clear hst hrow
                    go_wp2
                    go_roundw
                    case rel => exact ⟨k + 1, L.take j ++ (1 + r) :: L.drop j, by omega, by go_num, by unfold Hid; rw [len_shift L j _ (by rw [HM.out]; omega), HM.out]; exact HS.out.1, hin, by rw [len_shift L j _ (by rw [HM.out]; omega), HM.out]; omega, hbq.grown HS.out.2 hbq.size (fun q hq => by cases hq; exact (HS.out.1.lt g1 rfl).1)⟩
                    case measure => simp [intOf]; omega
          · have hup : Hid (a < L.length → 1 + r < L[a]?.getD 0) := fun h' => by rw [HM.out] at h'; exact absurd h' hal
            have hsz := hbw.size
            go_wp2_with (at_builtin; refine wpList_append_own_at _ rfl _ _ 22 rfl w.heap.size 3 i0 (.int .i64 0) 1 8 Tryz.underlying22 hi0 hz0 hz1 hz2 rfl (by decide) _ m (ints L) rfl (hown.out.alloc _) ⟨w1.heap.size, 0, none⟩ 1 1 [.int .i64 0] rfl rfl (news_one _ _ _) (by simp [Value.oneCell']) (by unfold maxLen; omega) (by omega) (by simp; omega) ?_; intro v1 w2 hown1 hgrow _ _; obtain ⟨ao1, cp1, rfl⟩ := own_form hown1; rw [← ints_snoc] at hown1; obtain ⟨g1, rfl, -, -⟩ := own_elem hown1 0 (by omega); have HO1 := hideIt hown1; have hb2 : Below w.heap.size w w2 := (hbw.alloc hbw.size _).grown hgrow (by simp; omega) (fun q hq => (hown.out.lt q hq).1); clear hown1 hgrow)
            go_loopw [7] (fun jv wq => ∃ (j : Nat) (y : Int), a ≤ j ∧ j ≤ m ∧ jv = .int .i64 j ∧ Hid (wq.ownsRow w.heap.size 3 1 (.slice (some ⟨g1, 0, none⟩) (m + 1) cp1) (m + 1) (ints (L.take j ++ y :: L.drop j))) ∧ Below w.heap.size w wq) (fun jv _ => (intOf jv).toNat)
            case atStart => exact ⟨m, 0, ha, Nat.le_refl _, by go_num, by unfold Hid; rw [List.take_of_length_le (by rw [HM.out]; omega), List.drop_of_length_le (by rw [HM.out]; omega)]; exact HO1.out, hb2⟩
            case round =>
              obtain ⟨j, y, hj1, hj2, rfl, hrow, hbq⟩ := hrel
              by_cases hjl : a < j
              · omega
              · obtain rfl : j = a := by omega
                obtain ⟨g2, e2, q1, f1⟩ := own_elem hrow.out j (by omega)
                simp only [Option.some.injEq, Addr.mk.injEq] at e2
                obtain ⟨rfl, -, -⟩ := e2
                have hst := hrow.out.stored j (.int .i64 (1 + r))
                rw [shift_end L j y (1 + r) (by rw [HM.out]; omega)] at hst
                have HS := hideIt hst
                have hj3 : (0 : Int) ≤ (j : Int) := by omega
                have hj4 : (j : Int) < (m : Int) + 1 := by omega
                have hin := hideIt (keysOk_insert 10000 1 (1 + r) L j hok.out (by rw [HM.out]; omega) hlo.out hup.out (by omega) (by omega))
                clear hst hrow
                go_wp2
                go_roundw
                case rel => exact ⟨k + 1, L.take j ++ (1 + r) :: L.drop j, by omega, by go_num, by unfold Hid; rw [len_shift L j _ (by rw [HM.out]; omega), HM.out]; exact HS.out.1, hin, by rw [len_shift L j _ (by rw [HM.out]; omega), HM.out]; omega, hbq.grown HS.out.2 hbq.size (fun q hq => by cases hq; exact (HS.out.1.lt g1 rfl).1)⟩
                case measure => simp [intOf]; omega
      · go_wp2
        go_ret
        exact ⟨_, L, rfl, by rw [HM.out]; exact hown.out, hok.out, by rw [HM.out]; exact hlen, hbw⟩
    · go_wp2
      go_ret
      exact ⟨_, L, rfl, by rw [HM.out]; exact hown.out, hok.out, by rw [HM.out]; exact hlen, hbw⟩
end Go.Proofs.YtajobgmnmbnhiaaGreatDoor.Sap

/- WHAT IS PROVED HERE: a small account of memory: a list of blocks and rows that are there, no two of them one, and how it stands behind a new block, a store, an append and a call. No program's function is walked. Conditions: none. -/
namespace Go.Proofs.YtajobgmnmbnhiaaGreatDoor.Sap
open Go.RowKit

/-- What is said of one block: all of it, or that it is a slice's row (with spare room). -/
def As : Type := (Nat × Array Value × TypeId) ⊕ (TypeId × Nat × Value × Nat × List Value)
def As.blk (b : Nat) (c : Array Value) (t : TypeId) : As := Sum.inl (b, c, t)
def As.row (e : TypeId) (z : Nat) (v : Value) (n : Nat) (xs : List Value) : As := Sum.inr (e, z, v, n, xs)
def As.holds (w : World) (B : Nat) (a : As) : Prop :=
  match (show (Nat × Array Value × TypeId) ⊕ (TypeId × Nat × Value × Nat × List Value) from a) with
  | .inl (b, c, t) => B ≤ b ∧ w.heap[b]? = some (.cells c t (0, 0))
  | .inr (e, z, v, n, xs) => w.ownsRow B e z v n xs
def As.foot (a : As) : Option Nat :=
  match (show (Nat × Array Value × TypeId) ⊕ (TypeId × Nat × Value × Nat × List Value) from a) with
  | .inl (b, _, _) => some b
  | .inr (_, _, v, _, _) => v.ownBlock
theorem As.holds.own {w : World} {B : Nat} {e : TypeId} {z : Nat} {v : Value} {n : Nat} {xs : List Value} (h : As.holds w B (.row e z v n xs)) : w.ownsRow B e z v n xs := h
@[simp] theorem As.foot_blk (b : Nat) (c : Array Value) (t : TypeId) : (As.blk b c t).foot = some b := rfl
@[simp] theorem As.foot_row (e : TypeId) (z : Nat) (v : Value) (n : Nat) (xs : List Value) : (As.row e z v n xs).foot = v.ownBlock := rfl
theorem As.is (a : As) : (∃ b c t, a = .blk b c t) ∨ ∃ e z v n xs, a = .row e z v n xs := by
  rcases a with x | x
  · exact .inl ⟨x.1, x.2.1, x.2.2, rfl⟩
  · exact .inr ⟨x.1, x.2.1, x.2.2.1, x.2.2.2.1, x.2.2.2.2, rfl⟩
def As.apart (a b : As) : Prop := ∀ k, a.foot = some k → b.foot = some k → False
theorem As.apart.symm {a b : As} (h : a.apart b) : b.apart a := fun k h1 h2 => h k h2 h1

/-- From w0 on, below block B nothing has turned; from B on these blocks are there, no two of them one. -/
structure M (w0 : World) (B : Nat) (w : World) (l : List As) : Prop where
  holds : ∀ a ∈ l, a.holds w B
  apart : l.Pairwise As.apart
  bl : Below B w0 w
  sz : B ≤ w.heap.size

theorem As.holds.lt {w : World} {B : Nat} {a : As} (h : a.holds w B) {k : Nat} (hk : a.foot = some k) : B ≤ k ∧ k < w.heap.size := by
  rcases a.is with ⟨b, c, t, rfl⟩ | ⟨e, z, v, n, xs, rfl⟩
  · simp only [As.foot_blk, Option.some.injEq] at hk; subst hk; exact ⟨h.1, lt_of_block h.2⟩
  · exact World.ownsRow.lt h k hk

/-- What is said of a block that has not turned still holds. -/
theorem As.holds.kept {w w' : World} {B : Nat} {a : As} (h : a.holds w B) (hk : ∀ k, a.foot = some k → w'.heap[k]? = w.heap[k]?) : a.holds w' B := by
  rcases a.is with ⟨b, c, t, rfl⟩ | ⟨e, z, v, n, xs, rfl⟩
  · exact ⟨h.1, (hk b rfl).trans h.2⟩
  · refine ⟨h.own.1, ?_⟩
    rcases h.own.2 with hn | ⟨g, cap, cur, rfl, hg, hgg, rest⟩
    · exact .inl hn
    · exact .inr ⟨g, cap, cur, rfl, hg, (hk g rfl).trans hgg, rest⟩

theorem M.start (w : World) : M w w.heap.size w [] := ⟨fun _ h => (List.not_mem_nil h).elim, List.Pairwise.nil, Below.refl _ _, Nat.le_refl _⟩
theorem M.get {w0 w : World} {B i : Nat} {l : List As} {a : As} (h : M w0 B w l) (hi : l[i]? = some a) : a.holds w B := h.holds a (List.mem_of_getElem? hi)

theorem M.block {w0 w : World} {B i b : Nat} {l : List As} {c : Array Value} {t : TypeId} (h : M w0 B w l) (hi : l[i]? = some (.blk b c t)) : w.heap[b]? = some (.cells c t (0, 0)) := (h.get hi).2
theorem M.below {w0 w w' : World} {B : Nat} {l : List As} (h : M w0 B w l) (hb : Below w.heap.size w w') : M w0 B w' l :=
  ⟨fun a ha => (h.holds a ha).kept fun k hk => hb.block k ((h.holds a ha).lt hk).2, h.apart, h.bl.trans (hb.mono h.sz), Nat.le_trans h.sz hb.size⟩

theorem M.sub {w0 w : World} {B : Nat} {l l' : List As} (h : M w0 B w l) (hs : l'.Sublist l) : M w0 B w l' :=
  ⟨fun a ha => h.holds a (hs.subset ha), h.apart.sublist hs, h.bl, h.sz⟩

theorem M.perm {w0 w : World} {B : Nat} {l l' : List As} (h : M w0 B w l) (hs : l'.Perm l) : M w0 B w l' :=
  ⟨fun a ha => h.holds a (hs.mem_iff.1 ha), (hs.pairwise_iff (fun h => As.apart.symm h)).2 h.apart, h.bl, h.sz⟩

theorem As.holds.mono {w : World} {B B' : Nat} {a : As} (h : a.holds w B) (hb : B' ≤ B) : a.holds w B' := by
  rcases a.is with ⟨b, c, t, rfl⟩ | ⟨e, z, v, n, xs, rfl⟩
  · exact ⟨Nat.le_trans hb h.1, h.2⟩
  · refine ⟨h.own.1, ?_⟩
    rcases h.own.2 with hn | ⟨g, cap, cur, e1, hg, r⟩
    · exact .inl hn
    · exact .inr ⟨g, cap, cur, e1, by omega, r⟩

/-- A call that has made blocks of its own. -/
theorem M.join {w0 w w' : World} {B : Nat} {l l' : List As} (h : M w0 B w l) (k : M w w.heap.size w' l') : M w0 B w' (l' ++ l) := by
  have hm := h.below k.bl
  refine ⟨fun a ha => ?_, ?_, hm.bl, hm.sz⟩
  · rcases List.mem_append.1 ha with ha | ha
    · exact (k.holds a ha).mono h.sz
    · exact hm.holds a ha
  · refine List.pairwise_append.2 ⟨k.apart, h.apart, fun a ha b hb j h1 h2 => ?_⟩
    have e1 := ((k.holds a ha).lt h1).1
    have e2 := ((h.holds b hb).lt h2).2
    omega

theorem M.alloc {w0 w : World} {B : Nat} {l : List As} (h : M w0 B w l) (c : Array Value) (t : TypeId) : M w0 B (w.alloc (.cells c t)) (.blk w.heap.size c t :: l) := by
  have hb : Below w.heap.size w (w.alloc (.cells c t)) := (Below.refl _ _).alloc (Nat.le_refl _) _
  have hm := h.below hb
  refine ⟨fun a ha => ?_, ?_, hm.bl, hm.sz⟩
  · rcases List.mem_cons.1 ha with rfl | ha
    · exact ⟨h.sz, heap_alloc_new w _⟩
    · exact hm.holds a ha
  · refine List.pairwise_cons.2 ⟨fun b hb j h1 h2 => ?_, h.apart⟩
    simp only [As.foot_blk, Option.some.injEq] at h1
    have := ((h.holds b hb).lt h2).2
    omega

/-- A new block of which nothing will be asked. -/
theorem M.allocd {w0 w : World} {B : Nat} {l : List As} (h : M w0 B w l) (o : Obj) : M w0 B (w.alloc o) l := h.below ((Below.refl _ _).alloc (Nat.le_refl _) _)
theorem M.drew {w0 w : World} {B : Nat} {l : List As} (h : M w0 B w l) : M w0 B w.drew l := h.below ⟨rfl, rfl, rfl, Nat.le_refl _, fun _ _ => rfl⟩
theorem M.drewN {w0 w : World} {B : Nat} {l : List As} (h : M w0 B w l) (d : Nat) : M w0 B (w.drewN d) l := h.below ⟨rfl, rfl, rfl, Nat.le_refl _, fun _ _ => rfl⟩

/-- One of them has turned (its own block at most, or it lies in a new one). -/
theorem M.upd {w0 w w' : World} {B i : Nat} {l : List As} {a a' : As} (h : M w0 B w l) (hi : l[i]? = some a) (hg : w.grownBy w' a.foot) (ha : a'.holds w' B) (hf : a'.foot = a.foot ∨ ∀ k, a'.foot = some k → w.heap.size ≤ k) :
    M w0 B w' (l.set i a') := by
  have hil : i < l.length := (List.getElem?_eq_some_iff.1 hi).1
  have hia : l[i] = a := (List.getElem?_eq_some_iff.1 hi).2
  have key : ∀ b j, l[j]? = some b → j ≠ i → b.holds w' B ∧ ∀ k, a'.foot = some k → b.foot = some k → False := by
    intro b j hj hne
    have hjl : j < l.length := (List.getElem?_eq_some_iff.1 hj).1
    have hjb : l[j] = b := (List.getElem?_eq_some_iff.1 hj).2
    have hap : a.apart b := by
      have hp := List.pairwise_iff_getElem.1 h.apart
      rcases Nat.lt_or_ge i j with hlt | hge
      · have := hp i j hil hjl hlt; rw [hia, hjb] at this; exact this
      · have := hp j i hjl hil (by omega); rw [hia, hjb] at this; exact this.symm
    have hb := h.get hj
    refine ⟨hb.kept fun k hk => ?_, fun k h1 h2 => ?_⟩
    · exact hg.block k (hb.lt hk).2 (fun e => hap k e.symm hk)
    · rcases hf with e | e
      · exact hap k (e ▸ h1) h2
      · have := e k h1; have := (hb.lt h2).2; omega
  refine ⟨fun b hb => ?_, ?_, ?_, Nat.le_trans h.sz hg.size⟩
  · obtain ⟨j, hj⟩ := List.mem_iff_getElem?.1 hb
    rw [List.getElem?_set] at hj
    split at hj
    · cases hj; exact ha
    · rename_i hne; exact (key b j hj (fun e => hne e.symm)).1
  · refine List.pairwise_iff_getElem.2 fun p q hp hq hpq => ?_
    rw [List.length_set] at hp hq
    rw [List.getElem_set, List.getElem_set]
    split
    · rename_i e
      rw [if_neg (by omega)]
      exact (key _ q (List.getElem?_eq_getElem hq) (by omega)).2
    · rename_i e
      split
      · exact fun k h1 h2 => (key _ p (List.getElem?_eq_getElem hp) (by omega)).2 k h2 h1
      · exact List.pairwise_iff_getElem.1 h.apart p q hp hq hpq
  · exact h.bl.grown hg h.sz (fun k hk => ((h.get hi).lt hk).1)

theorem M.store {w0 w : World} {B i b j : Nat} {l : List As} {c c' : Array Value} {t : TypeId} (h : M w0 B w l) (hi : l[i]? = some (.blk b c t)) (u : Value) (hc : c.setIfInBounds j u = c') : M w0 B (w.setCell ⟨b, j, none⟩ u) (l.set i (.blk b c' t)) := by
  have hb := h.get hi
  refine h.upd hi ⟨rfl, rfl, rfl, by simp [World.setCell], fun k _ hk => Below.heap_setCell _ _ _ _ (fun e => hk (by rw [e]; rfl))⟩ ⟨hb.1, ?_⟩ (Or.inl rfl)
  rw [Go.Joins.block_setCell hb.2, hc]

theorem M.storeRow {w0 w : World} {B i g j : Nat} {l : List As} {e : TypeId} {z n cap : Nat} {xs : List Value} (h : M w0 B w l) (hi : l[i]? = some (.row e z (.slice (some ⟨g, 0, none⟩) n cap) n xs)) (u : Value) : M w0 B (w.setCell ⟨g, j, none⟩ u) (l.set i (.row e z (.slice (some ⟨g, 0, none⟩) n cap) n (xs.set j u))) := by
  have hb := h.get hi
  obtain ⟨h1, h2⟩ := World.ownsRow.stored hb j u
  exact h.upd hi h2 h1 (Or.inl rfl)

/-- Behind an append (the new element lies in a block of its own). -/
theorem M.append {w0 w w' : World} {B i : Nat} {l : List As} {e : TypeId} {z n m : Nat} {v v' : Value} {xs ys : List Value} (h : M w0 B w l) (hi : l[i]? = some (.row e z v n xs)) (ho : w'.ownsRow B e z v' m ys) (hg : w.grownBy w' v.ownBlock)
    (hat : v'.ownBlock = v.ownBlock ∨ v'.ownBlock = some w.heap.size) : M w0 B w' (l.set i (.row e z v' m ys)) := by
  refine h.upd hi hg ho ?_
  rcases hat with e1 | e1
  · exact Or.inl e1
  · exact Or.inr fun k hk => by simp only [As.foot_row] at hk; rw [e1] at hk; cases hk; exact Nat.le_refl _

/-- The cells of a block that is there. -/
theorem M.cell {w0 w : World} {B i b : Nat} {l : List As} {c : Array Value} {t : TypeId} (h : M w0 B w l) (hi : l[i]? = some (.blk b c t)) (j : Nat) (v : Value) (hv : c[j]? = some v) : w.cell? ⟨b, j, none⟩ = some v := by
  rw [Go.Joins.cell_of_block (h.get hi).2]; exact hv
theorem M.free {w0 w : World} {B i b : Nat} {l : List As} {c : Array Value} {t : TypeId} (h : M w0 B w l) (hi : l[i]? = some (.blk b c t)) (j : Nat) : w.frozen? ⟨b, j, none⟩ = false := Go.Joins.unfrozen_of_block (h.get hi).2 j
theorem M.lt {w0 w : World} {B i b : Nat} {l : List As} {c : Array Value} {t : TypeId} (h : M w0 B w l) (hi : l[i]? = some (.blk b c t)) : b < w.heap.size := lt_of_block (h.get hi).2
/-- A row that is not empty lies somewhere. -/
theorem As.form {w : World} {B : Nat} {e : TypeId} {z n : Nat} {v : Value} {xs : List Value} (h : As.holds w B (.row e z v n xs)) (hn : 0 < n) : ∃ g cap, v = .slice (some ⟨g, 0, none⟩) n cap := by
  rcases h.own.2 with ⟨-, h0⟩ | ⟨g, cap, cur, rfl, -⟩
  · omega
  · exact ⟨g, cap, rfl⟩
theorem As.form0 {w : World} {B : Nat} {e : TypeId} {z n : Nat} {v : Value} {xs : List Value} (h : As.holds w B (.row e z v n xs)) : ∃ ao cap, v = .slice ao n cap := by
  rcases h.own.2 with ⟨h1, h0⟩ | ⟨g, cap, cur, rfl, -⟩
  · exact ⟨none, 0, by rw [h1, h0]⟩
  · exact ⟨_, cap, rfl⟩
end Go.Proofs.YtajobgmnmbnhiaaGreatDoor.Sap
