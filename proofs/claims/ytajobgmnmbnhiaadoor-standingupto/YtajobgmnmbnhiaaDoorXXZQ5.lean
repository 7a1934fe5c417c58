/- WHAT IS PROVED HERE: plain facts on the row of the leaves that saplingkeep's row asks for: the keys rise, node by node (no program's function is walked). Conditions: none but those named at each theorem. -/
import Derived.Test.YtajobgmnmbnhiaaDoorXQ3Z2
import Derived.Test.YtajobgmnmbnhiaaDoorXXG2XY
import Derived.Deep.AppendLies
import Derived.Deep.RegionLaw
import Derived.Laws.OwnMore
namespace Go.Proofs.YtajobgmnmbnhiaaDoor.Sap
open Go.RowKit

theorem row_rise {t : Tre} (h : t.Ok) {p : Nat} {ps : List Nat} (R : RowF t 0 p ps) : (rowK t ps).Pairwise (· < ·) ∧ ∀ k ∈ rowK t ps, 1 ≤ k := by
  constructor
  · unfold rowK
    refine List.pairwise_flatMap.2 ⟨fun q hq => right_pw _ (h.rt q (R.inn q hq).1), ?_⟩
    refine List.Pairwise.imp_of_mem (fun {a b} ha hb hab x hx y hy => ?_) R.pw
    obtain ⟨ai, al⟩ := R.inn a ha
    obtain ⟨bi, bl⟩ := R.inn b hb
    have h1 := (right_kb _ (h.rt a ai) x hx).2
    have h2 := h.ks b bi y hy
    have h3 := h.lo a ai
    have h4 := h.lo b bi
    rcases h.dis a b ai bi (by omega) (fun e => by subst e; omega) with h5 | h5 <;> omega
  · intro k hk
    unfold rowK at hk
    obtain ⟨q, hq, hk⟩ := List.mem_flatMap.1 hk
    obtain ⟨qi, ql⟩ := R.inn q hq
    have h1 := (right_least _ (h.rt q qi) k hk).1
    unfold least at h1
    rw [if_pos ql] at h1
    exact h1
theorem take_snocL {α : Type} {l : List α} {j : Nat} {a : α} (h : l[j]? = some a) : l.take (j + 1) = l.take j ++ [a] := by
  rw [List.take_add_one, h]; rfl
theorem rowK_take {t : Tre} {ps : List Nat} {j q : Nat} (h : ps[j]? = some q) : rowK t (ps.take (j + 1)) = rowK t (ps.take j) ++ (t.nd q).ks ∧ rowV t (ps.take (j + 1)) = rowV t (ps.take j) ++ (t.nd q).vs := by
  rw [take_snocL h]
  unfold rowK rowV
  rw [List.flatMap_append, List.flatMap_append]
  simp
theorem rowK_sub {t : Tre} {ps : List Nat} (j : Nat) : ∃ r, rowK t ps = rowK t (ps.take j) ++ r := by
  refine ⟨rowK t (ps.drop j), ?_⟩
  unfold rowK
  rw [← List.flatMap_append, List.take_append_drop]
/-- The last key so far. -/
def lastK (l : List Int) : Int := l.getLast?.getD 0
theorem last_lt {A B : List Int} {k : Int} (h : (A ++ k :: B).Pairwise (· < ·)) (h1 : ∀ x ∈ A ++ k :: B, 1 ≤ x) : lastK A < k := by
  unfold lastK
  cases hl : A.getLast? with
  | none => have := h1 k (by simp); show (0 : Int) < k; omega
  | some a =>
    have ha : a ∈ A := List.mem_of_getLast? hl
    exact (List.pairwise_append.1 h).2.2 a ha k (by simp)
/-- What the inner loop of row asks for. -/
theorem row_last {t : Tre} (h : t.Ok) {p : Nat} {ps : List Nat} (R : RowF t 0 p ps) {j q : Nat} (hj : ps[j]? = some q) {i : Nat} {k : Int} (hi : (t.nd q).ks[i]? = some k) : lastK (rowK t (ps.take j) ++ (t.nd q).ks.take i) < k := by
  obtain ⟨r1, r2⟩ := row_rise h R
  obtain ⟨r, hr⟩ := rowK_sub (t := t) (ps := ps) (j + 1)
  rw [(rowK_take hj).1] at hr
  have hs : (t.nd q).ks = (t.nd q).ks.take i ++ k :: (t.nd q).ks.drop (i + 1) := by
    have hil := (List.getElem?_eq_some_iff.1 hi).1
    have e : (t.nd q).ks[i] = k := (List.getElem?_eq_some_iff.1 hi).2
    rw [← e, ← List.drop_eq_getElem_cons hil, List.take_append_drop]
  have e : rowK t ps = (rowK t (ps.take j) ++ (t.nd q).ks.take i) ++ k :: ((t.nd q).ks.drop (i + 1) ++ r) := by
    rw [hr]
    conv => lhs; rw [hs]
    simp
  rw [e] at r1 r2
  exact last_lt r1 r2
theorem lastK_snoc (A : List Int) (ks : List Int) {i : Nat} {k : Int} (hi : ks[i]? = some k) : lastK (A ++ ks.take (i + 1)) = k := by
  rw [take_snocL hi, ← List.append_assoc]
  unfold lastK
  rw [List.getLast?_concat]; rfl
theorem rowK_len {t : Tre} (h : t.Ok) {ps : List Nat} (hi : ∀ q ∈ ps, t.inn q) : (rowK t ps).length ≤ 6 * ps.length ∧ (rowV t ps).length = (rowK t ps).length := by
  induction ps with
  | nil => exact ⟨Nat.le_refl _, rfl⟩
  | cons a r ih =>
    have h1 := ih fun q hq => hi q (by simp [hq])
    have hb := right_bd _ (h.rt a (hi a (by simp)))
    have h2 : (t.nd a).ks.length ≤ 6 := hb.2.2.2.2.1
    have h3 := hb.2.2.2.1
    unfold rowK rowV at h1 ⊢
    rw [List.flatMap_cons, List.flatMap_cons, List.length_append, List.length_append, List.length_cons]
    omega
/-- On along the row, or down. -/
theorem RowF.near {t : Tre} {l : Int} {p : Nat} {ps : List Nat} (R : RowF t l p ps) {j a b : Nat} (ha : ps[j]? = some a) (hb : ps[j + 1]? = some b) : t.inn b ∧ Nearer t b a := by
  have h1 := R.inn a (List.mem_of_getElem? ha)
  have h2 := R.inn b (List.mem_of_getElem? hb)
  refine ⟨h2.1, Or.inr ⟨by omega, ?_⟩⟩
  have hal := (List.getElem?_eq_some_iff.1 ha)
  have hbl := (List.getElem?_eq_some_iff.1 hb)
  have := List.pairwise_iff_getElem.1 R.pw j (j + 1) hal.1 hbl.1 (by omega)
  rw [hal.2, hbl.2] at this
  exact this
end Go.Proofs.YtajobgmnmbnhiaaDoor.Sap

/- WHAT IS PROVED HERE: saplingkeep's row: the leaves of pages that are a tree, as a map. Conditions: named at each theorem. -/
namespace Go.Proofs.YtajobgmnmbnhiaaDoor.Sap
open Go.RowKit

/-- Nothing is appended. -/
theorem run_append_zero {P : Program} {w : World} (base : Nat) (t ty e : TypeId) (i : TypeInfo) (size : Nat) (ht : P.underlying t = some (.slice e)) (hi : P.info? e = some i) (v : Value) (n : Nat) (xs : List Value) (hown : w.ownsRow base e size v n xs) (sa : Option Addr) (sc : Nat) :
    (Builtin.append_ #[t, t] ty #[v, .slice sa 0 sc]).run P w = .ok v w := by
  rcases hown.2 with ⟨rfl, rfl⟩ | ⟨g, cap, cur, rfl, _, _, hnc, _⟩
  · cases sa <;> simp [Builtin.append_, run_underlying ht, sizeOf, typeInfo, hi, Builtin.lenOf, Builtin.firstCells, loadCells, loadCellsFrom]
  · cases sa <;> simp [Builtin.append_, run_underlying ht, sizeOf, typeInfo, hi, Builtin.lenOf, Builtin.firstCells, loadCells, loadCellsFrom, hnc, storeCells]
theorem step_append_zero {P : Program} {w : World} {ops : Array Oper} {o : Oper} {a : Act} {K : Act → World → Prop} {Q : Exit → Act → World → Prop} {E : Prop} (hgd : o.guard = none) (s x : Operand) (t : TypeId)
    (ho : o.op = .call { callee := .builtin .append, args := #[s, x], argTypes := #[t, t] })
    (base : Nat) (e : TypeId) (i : TypeInfo) (size : Nat) (ht : P.underlying t = some (.slice e)) (hi : P.info? e = some i)
    (v : Value) (n : Nat) (xs : List Value) (hs : a.eval s = v) (hown : w.ownsRow base e size v n xs) (sa : Option Addr) (m sc : Nat) (hx : a.eval x = .slice sa m sc) (hm : m = 0)
    (h : K (a.put o.dst v) w) : if Region.wanted o (yielded ops a.tmps) = true then Oper.wp P o a w K Q else E := by
  have hw : Region.wanted o (yielded ops a.tmps) = true := by simp [Region.wanted, hgd]
  rw [if_pos hw]
  subst hm
  have hr := run_append_zero (P := P) base t o.type e i size ht hi v n xs hown sa sc
  unfold Oper.wp execOp
  simp only [ho, resolve, invoke, builtin, Sem.run_bind, Sem.run_pure, Result.andThen_ok, List.map_toArray, List.map_cons, List.map_nil, hs, hx, hr]
  exact h

/-- Where row is: on its way down, or at the j-th leaf. -/
def RowSt (t : Tre) (ps : List Nat) (b : Bool) (la q : Int) (K V : List Int) : Prop :=
  (∃ p : Nat, q = (p : Int) ∧ t.inn p ∧ t.low p = 0 ∧ 0 < (t.nd p).lv ∧ b = false ∧ la = 0 ∧ K = [] ∧ V = []) ∨
  (∃ j : Nat, j ≤ ps.length ∧ q = (ps[j]?.map Int.ofNat).getD (-1) ∧ la = lastK (rowK t (ps.take j)) ∧ K = rowK t (ps.take j) ∧ V = rowV t (ps.take j))
/-- How far a page is from the end. -/
def mq (m : Nat → Nat) (q : Int) : Nat := if q < 0 then 0 else m q.toNat + 1
theorem mq_nat (m : Nat → Nat) (p : Nat) : mq m (p : Int) = m p + 1 := by unfold mq; rw [if_neg (by omega), Int.toNat_natCast]

set_option maxRecDepth 100000 in
set_option maxHeartbeats 6400000 in
theorem row_yes (gw tg tc ug uc p0 : Nat) (T : List ByteArray) (U : List Bool) (t : Tre) (ps : List Nat) (w : World) (h : PgR gw tg tc ug uc T U w) (ht : t.Ok) (hsay : ∀ p, t.inn p → Says T U p (t.nd p)) (R : RowF t 0 p0 ps) (hl0 : t.low p0 = 0) (hl : ps.length ≤ 64) :
    Calls Tryd.prog 31 #[.pointer (some ⟨gw, 0, none⟩)] w fun e w' => ∃ gt kv vv, e = .returned (.tuple #[.pointer (some ⟨gt, 0, none⟩), .bool true]) ∧ M w w.heap.size w' [.blk gt #[kv, vv] 67, .row 3 1 kv (rowK t ps).length (ints (rowK t ps)), .row 3 1 vv (rowK t ps).length (ints (rowV t ps))] := by
  obtain ⟨i0, hi0, hz0, hz1, hz2⟩ := info_parts infoInt
  obtain ⟨m, -, hm⟩ := rank_ex t ht
  have HM := hideIt hm
  have HP := hideIt h
  have HS := hideIt hsay
  have HT := hideIt ht
  have HR := hideIt R
  have HL := hideIt hl
  have HL0 := hideIt hl0
  have hmk : ∀ W, (Instr.makeSlice 53 (.int .i64 64) (.int .i64 64)).run Tryd.prog W = .ok (.slice (some ⟨W.heap.size, 0, none⟩) 64 64) (W.alloc (.cells (bools (List.replicate 64 false)).toArray 4)) := fun _ => by kernel_rfl
  have A0 := hideIt ((((M.blkRow ((M.nil2 (e := 3) (z := 1) (l1 := [_]) (M.nil2 (e := 3) (z := 1) (l1 := [_]) ((M.start w).alloc #[.slice none 0 0, .slice none 0 0] 67))).alloc (bools (List.replicate 64 false)).toArray 4) (by decide))).perm (l' := [.blk w.heap.size #[.slice none 0 0, .slice none 0 0] 67, .row 3 1 (.slice none 0 0) 0 [], .row 3 1 (.slice none 0 0) 0 [], .row 4 1 (.slice (some ⟨(w.alloc (.cells #[.slice none 0 0, .slice none 0 0] 67)).heap.size, 0, none⟩) 64 64) 64 (bools (List.replicate 64 false))]) (List.perm_append_comm (l₁ := [_, _, _]) (l₂ := [_]))))
  have H0 : Hid (∃ q K V, q = (0 : Int) ∧ K = ([] : List Int) ∧ V = ([] : List Int) ∧ RowSt t ps false 0 q K V) := by
    refine ⟨0, [], [], rfl, rfl, rfl, ?_⟩
    have h0 := ht.l0
    by_cases hlv : 0 < (t.nd 0).lv
    · exact Or.inl ⟨0, rfl, ht.r0, h0, hlv, rfl, rfl, rfl, rfl⟩
    · refine Or.inr ⟨0, by omega, ?_, rfl, rfl, rfl⟩
      have hp0 := R.inn p0 (List.mem_of_getElem? R.hd)
      have : p0 = 0 := by
        rcases Nat.eq_zero_or_pos p0 with e | e
        · exact e
        · have := ht.top p0 hp0.1 (by omega)
          omega
      rw [R.hd, this]; rfl
  clear h hsay ht R hl0 hl hm
  go_enter Tryd.func31, Tryd.ntmps31
  go_wp2
  have HW : Hid ((w.alloc (.cells #[.slice none 0 0, .slice none 0 0] 67)).heap.size = w.heap.size + 1) := by unfold Hid; simp
  rw [HW.out] at A0
  obtain ⟨gb, hgb⟩ : ∃ g, w.heap.size + 1 = g := ⟨_, rfl⟩
  rw [hgb] at A0 ⊢
  clear hgb HW hmk
  obtain ⟨gt, hgt⟩ : ∃ g, w.heap.size = g := ⟨_, rfl⟩
  have HGT := hideIt hgt
  rw [hgt] at A0 ⊢
  clear hgt
  go_loopw [6, 7, 8] (fun lf lt at_ wr => ∃ (b : Bool) (q la : Int) (K V : List Int) (kv vv : Value) (bn : List Bool), lf = .bool b ∧ lt = .int .i64 la ∧ at_ = .int .i64 q ∧ Hid (RowSt t ps b la q K V) ∧ Hid (V.length = K.length ∧ K.length ≤ 384) ∧ Hid (bn.length = 64 ∧ ∀ p, bn[p]? = some true → mq m q ≤ m p) ∧ Hid (M w gt wr [.blk gt #[kv, vv] 67, .row 3 1 kv K.length (ints K), .row 3 1 vv K.length (ints V), .row 4 1 (.slice (some ⟨gb, 0, none⟩) 64 64) 64 (bools bn)])) (fun _ _ at_ _ => mq m (intOf at_))
  case atStart =>
    obtain ⟨q, K, V, rfl, rfl, rfl, hst⟩ := H0.out
    refine ⟨false, 0, 0, [], [], _, _, List.replicate 64 false, rfl, rfl, rfl, hst, ⟨rfl, by decide⟩, ⟨List.length_replicate, fun p hp => ?_⟩, A0.out⟩
    rw [List.getElem?_replicate] at hp
    split at hp
    · cases hp
    · cases hp
  case round =>
    clear A0 H0
    obtain ⟨b, q, la, K, V, kv, vv, bn, rfl, rfl, rfl, hst, hkl, hbn, hM⟩ := hrel
    have hbl : Hid (Below w.heap.size w wr) := by have := hM.out.bl; rw [← HGT.out] at this; exact this
    by_cases hq : q = -1
    · subst hq
      have HF : Hid (K = rowK t ps ∧ V = rowV t ps) := by
        rcases hst.out with ⟨p, e, -⟩ | ⟨j, hj, e, -, h1, h2⟩
        · omega
        · have hjl : ps.length ≤ j := by
            rcases Nat.lt_or_ge j ps.length with h | h
            · rw [List.getElem?_eq_getElem h] at e
              have e2 : (-1 : Int) = ((ps[j] : Nat) : Int) := e
              omega
            · exact h
          rw [List.take_of_length_le hjl] at h1 h2
          exact ⟨h1, h2⟩
      have HM2 : Hid (M w w.heap.size wr [.blk gt #[kv, vv] 67, .row 3 1 kv (rowK t ps).length (ints (rowK t ps)), .row 3 1 vv (rowK t ps).length (ints (rowV t ps))]) := by
        unfold Hid
        have := hM.out.sub (l' := [.blk gt #[kv, vv] 67, .row 3 1 kv K.length (ints K), .row 3 1 vv K.length (ints V)]) (List.sublist_append_left [_, _, _] [_])
        rw [HGT.out, ← HF.out.1, ← HF.out.2]
        exact this
      clear hM hst hkl hbn hbl HF
      go_wp2
      refine bodyPost_ret (v := .tuple #[.pointer (some ⟨gt, 0, none⟩), .bool true]) (by simp [results, Tryd.results31, go_sem, *]) rfl ⟨gt, kv, vv, rfl, HM2.out⟩
    · have hqb : (q != -1) = true := by simp [hq]
      obtain ⟨p, hqp, hpi, hcs⟩ : ∃ p : Nat, q = (p : Int) ∧ t.inn p ∧ ((0 < (t.nd p).lv ∧ t.low p = 0 ∧ b = false ∧ la = 0 ∧ K = [] ∧ V = []) ∨ ((t.nd p).lv = 0 ∧ ∃ j, ps[j]? = some p ∧ la = lastK (rowK t (ps.take j)) ∧ K = rowK t (ps.take j) ∧ V = rowV t (ps.take j))) := by
        rcases hst.out with ⟨p, e, h1, h2, h3, h4, h5, h6, h7⟩ | ⟨j, hj, e, h1, h2, h3⟩
        · exact ⟨p, e, h1, Or.inl ⟨h3, h2, h4, h5, h6, h7⟩⟩
        · rcases Nat.lt_or_ge j ps.length with h | h
          · have hp := List.getElem?_eq_getElem h
            rw [hp] at e
            have hin := HR.out.inn _ (List.getElem_mem h)
            exact ⟨ps[j], e, hin.1, Or.inr ⟨hin.2, j, hp, h1, h2, h3⟩⟩
          · rw [List.getElem?_eq_none h] at e
            exact absurd e hq
      subst hqp
      have hs := HS.out p hpi
      have hp64 : p < 64 := hs.1
      have hp0 : (0 : Int) ≤ (p : Int) := by omega
      have hp1 : (p : Int) < 64 := by omega
      have hbp : bn[p]? = some false := by
        obtain ⟨b', hb'⟩ : ∃ b', bn[p]? = some b' := ⟨_, List.getElem?_eq_getElem (by rw [hbn.out.1]; exact hp64)⟩
        cases b' with
        | false => exact hb'
        | true =>
          have := hbn.out.2 p hb'
          rw [mq_nat] at this
          omega
      have HBP := hideIt hbp
      have HPI := hideIt hpi
      have HLV := hideIt (right_bd _ (HT.out.rt p hpi)).1
      have CS := hideIt (says_yes gw tg tc ug uc p T U (t.nd p) wr (HP.out.below hbl.out) hs)
      obtain ⟨n, hn⟩ : ∃ n, t.nd p = n := ⟨_, rfl⟩
      have HN := hideIt hn
      rw [hn] at CS HLV
      have HCS := hideIt hcs
      clear hst hs hpi hbp hq hn hcs
      go_wp2_with fail
      refine CS.out.mono ?_
      rintro e w1 ⟨kv1, vv1, rfl, hM1⟩
      obtain ⟨ka, kc, rfl⟩ := As.form0 (hM1.get (i := 0) rfl)
      obtain ⟨va, vc, rfl⟩ := As.form0 (hM1.get (i := 1) rfl)
      have hM3 := (hM.out.join hM1).alloc #[.int .i64 n.lv, .int .i64 n.lk, .int .i64 n.hi, .slice ka n.ks.length kc, .slice va n.vs.length vc] 24
      obtain ⟨gn, hgn⟩ : ∃ g, w1.heap.size = g := ⟨_, rfl⟩
      obtain ⟨w2, hw2⟩ : ∃ W, w1.alloc (.cells #[.int .i64 n.lv, .int .i64 n.lk, .int .i64 n.hi, .slice ka n.ks.length kc, .slice va n.vs.length vc] 24) = W := ⟨_, rfl⟩
      rw [hw2, hgn] at hM3
      have HW2 := hideIt hw2
      have HGN := hideIt hgn
      have HM3 := hideIt hM3
      clear CS hM1 hM hM3 hw2 hgn hbl
      go_upto_region 8 with fail
      rw [HW2.out, HGN.out]
      clear HW2 HGN
      have n0 := HM3.out.cell (i := 0) rfl 0 (.int .i64 n.lv) rfl
      have n4 := HM3.out.cell (i := 0) rfl 4 (.slice va n.vs.length vc) rfl
      have b0 := HM3.out.rowCell (i := 6) rfl p (.bool false) (bools_get HBP.out)
      have fz := World.ownsRow.frozenAt (HM3.out.get (i := 6) rfl).own p
      have hgbl : gb < w2.heap.size := lt_of_cell b0
      have hgnl : gn < w2.heap.size := lt_of_cell n0
      have S1 := HM3.out.storeRow (i := 6) (j := p) rfl (.bool true)
      obtain ⟨w3, hw3⟩ : ∃ W, w2.setCell ⟨gb, p, none⟩ (.bool true) = W := ⟨_, rfl⟩
      rw [hw3, bools_setx] at S1
      have HW3 := hideIt hw3
      have HS1 : Hid (M w gt w3 [.blk gn #[.int .i64 n.lv, .int .i64 n.lk, .int .i64 n.hi, .slice ka n.ks.length kc, .slice va n.vs.length vc] 24, .row 3 1 (.slice ka n.ks.length kc) n.ks.length (ints n.ks), .row 3 1 (.slice va n.vs.length vc) n.vs.length (ints n.vs), .blk gt #[kv, vv] 67, .row 3 1 kv K.length (ints K), .row 3 1 vv K.length (ints V), .row 4 1 (.slice (some ⟨gb, 0, none⟩) 64 64) 64 (bools (bn.set p true))]) := S1
      have HB2 : Hid ((bn.set p true).length = 64 ∧ ∀ r : Nat, r ≤ m p → ∀ q, (bn.set p true)[q]? = some true → r ≤ m q) := by
        refine ⟨by rw [List.length_set]; exact hbn.out.1, fun r hr q hq => ?_⟩
        rw [List.getElem?_set] at hq
        split at hq
        · rename_i e; subst e; exact hr
        · have := hbn.out.2 q hq
          rw [mq_nat] at this
          omega
      clear hw3 S1 HM3
      rcases HCS.out with ⟨hlv, hlow, rfl, rfl, rfl, rfl⟩ | ⟨hlv, j, hj, hla, hK, hV⟩
      · obtain ⟨c, hc1, hc2, hc3, hc4⟩ := first_child HT.out HPI.out hlow hlv
        rw [HN.out] at hlv hc1 hc4
        have HC : Hid (t.inn c ∧ t.low c = 0 ∧ (t.nd c).lv + 1 = n.lv) := ⟨hc2, hc3, hc4⟩
        have hnear := hideIt (HM.out p c hc2 (Or.inl (by rw [HN.out]; omega)))
        have hvl : 0 < n.vs.length := by have := (List.getElem?_eq_some_iff.1 hc1).1; exact this
        have hvl0 : (0 : Int) < (n.vs.length : Int) := by omega
        have hvb : ((n.vs.length : Int) == 0) = false := by rw [beq_eq_false_iff_ne]; omega
        have hvb2 : (n.vs.length == 0) = false := by rw [beq_eq_false_iff_ne]; omega
        have hlb : (n.lv != 0) = true := by simp; omega
        obtain ⟨vg, vcap, hva⟩ := As.form (HS1.out.get (i := 2) rfl) hvl
        cases hva
        have HC1 := hideIt hc1
        clear hc1 hc2 hc3 hc4 hlow
        go_upto_region 11 with fail
        rw [HW3.out]
        clear n0 n4 b0 fz hgbl hgnl HW3
        have n0 := HS1.out.cell (i := 0) rfl 0 (.int .i64 n.lv) rfl
        have n4 := HS1.out.cell (i := 0) rfl 4 (.slice (some ⟨vg, 0, none⟩) n.vs.length vc) rfl
        have y0 := HS1.out.rowCell (i := 2) rfl 0 (.int .i64 c) (ints_get HC1.out)
        have hgnl : gn < w3.heap.size := lt_of_cell n0
        have hvgl : vg < w3.heap.size := lt_of_cell y0
        have HM4 := hideIt (HS1.out.sub (l' := [.blk gt #[kv, vv] 67, .row 3 1 kv ([] : List Int).length (ints []), .row 3 1 vv ([] : List Int).length (ints []), .row 4 1 (.slice (some ⟨gb, 0, none⟩) 64 64) 64 (bools (bn.set p true))]) (List.sublist_append_right [_, _, _] [_, _, _, _]))
        have HST : Hid (RowSt t ps false 0 (c : Int) [] []) := by
          have h9 := HC.out
          by_cases hcl : 0 < (t.nd c).lv
          · exact Or.inl ⟨c, rfl, h9.1, h9.2.1, hcl, rfl, rfl, rfl, rfl⟩
          · refine Or.inr ⟨0, by omega, ?_, rfl, rfl, rfl⟩
            have hc0 : (t.nd c).lv = 0 := by have := (right_bd _ (HT.out.rt c h9.1)).1; omega
            have hmem := HR.out.all c h9.1 hc0 (by rw [HL0.out]; have := (HT.out.lo c h9.1).1; omega)
            have hp00 := HR.out.inn p0 (List.mem_of_getElem? HR.out.hd)
            have : c = p0 := by
              by_cases e : c = p0
              · exact e
              · have hz1 := HT.out.lo c h9.1
                have hz2 := HT.out.lo p0 hp00.1
                rcases HT.out.dis c p0 h9.1 hp00.1 (by omega) e with h5 | h5
                · have := HL0.out; have := h9.2.1; omega
                · have := HL0.out; have := h9.2.1; omega
            rw [HR.out.hd, this]; rfl
        clear HS1 HC
        go_wp2
        go_roundw
        case rel => exact ⟨false, c, 0, [], [], kv, vv, bn.set p true, rfl, rfl, rfl, HST.out, ⟨rfl, by decide⟩, ⟨HB2.out.1, fun q hq => HB2.out.2 _ (by rw [mq_nat]; exact hnear.out) q hq⟩, HM4.out⟩
        case measure =>
          show mq m (c : Int) < mq m (p : Int)
          rw [mq_nat, mq_nat]; have := hnear.out; omega
      · have HVL : Hid (n.ks.length = n.vs.length) := by have := (right_bd _ (HT.out.rt p HPI.out)).2.2.2.1; rw [HN.out] at this; exact this
        have HKL : Hid (n.ks.length ≤ 6) := by have := (right_bd _ (HT.out.rt p HPI.out)).2.2.2.2.1; rw [HN.out] at this; exact this
        have HLST : Hid (∀ i k, n.ks[i]? = some k → lastK (K ++ n.ks.take i) < k) := fun i k hk => by
          have := row_last HT.out HR.out hj (i := i) (k := k) (by rw [HN.out]; exact hk)
          rw [HN.out, ← hK] at this
          exact this
        have HNX : Hid (∃ j', j' ≤ ps.length ∧ n.lk = (ps[j']?.map Int.ofNat).getD (-1) ∧ K ++ n.ks = rowK t (ps.take j') ∧ V ++ n.vs = rowV t (ps.take j')) := by
          have hjl := (List.getElem?_eq_some_iff.1 hj).1
          have h1 := rowK_take (t := t) hj
          rw [HN.out] at h1
          have h2 := HR.out.lk j p hj
          rw [HN.out] at h2
          exact ⟨j + 1, by omega, h2, by rw [h1.1, hK], by rw [h1.2, hV]⟩
        have HKV : Hid (K.length ≤ 378) := by
          have hjl := (List.getElem?_eq_some_iff.1 hj).1
          have h1 := (rowK_len HT.out (ps := ps.take j) fun q hq => (HR.out.inn q (List.mem_of_mem_take hq)).1).1
          rw [← hK, List.length_take] at h1
          have := HL.out
          unfold Hid
          omega
        have HNEAR : Hid (mq m n.lk ≤ m p) := by
          have h2 := HR.out.lk j p hj
          rw [HN.out] at h2
          unfold Hid
          rw [h2]
          cases hx : ps[j + 1]? with
          | none => exact Nat.zero_le _
          | some r =>
            have h3 := HR.out.near hj hx
            have := HM.out p r h3.1 h3.2
            show mq m ((r : Nat) : Int) ≤ m p
            rw [mq_nat]
            omega
        have HLA : Hid (la = lastK K) := by unfold Hid; rw [hla, hK]
        rw [HN.out] at hlv
        obtain ⟨ta, tcap, rfl⟩ := As.form0 (HS1.out.get (i := 4) rfl)
        obtain ⟨ua, ucap, rfl⟩ := As.form0 (HS1.out.get (i := 5) rfl)
        rw [hlv] at n0 HS1
        have HLV0 := hideIt hlv
        clear hla hK hV hj hlv
        go_upto_region 8 with fail
        go_cut [49] from 15 to 102 (fun c wy => c = .bool false ∧ wy = w2)
        case first =>
          cases b
          all_goals
            go_wp2
            go_meet
            case rel => exact ⟨rfl, rfl⟩
        case rest =>
          obtain ⟨rfl, rfl⟩ := hcut
          go_upto_region 11 with fail
          rw [HW3.out]
          clear n0 n4 b0 fz hgbl hgnl HW3
          have n0 := HS1.out.cell (i := 0) rfl 0 (.int .i64 0) rfl
          have n3 := HS1.out.cell (i := 0) rfl 3 (.slice ka n.ks.length kc) rfl
          have hgnl : gn < w3.heap.size := lt_of_cell n0
          have hkl6 := HKL.out
          go_wp2
          go_loopw [7, 11] (fun lt vi wr => ∃ i : Nat, vi = .int .i64 i ∧ i ≤ n.ks.length ∧ lt = .int .i64 (lastK (K ++ n.ks.take i)) ∧ wr = w3) (fun _ vi _ => n.ks.length - (intOf vi).toNat)
          case atStart => exact ⟨0, rfl, by omega, by rw [List.take_zero, List.append_nil, HLA.out], rfl⟩
          case round =>
            obtain ⟨i, rfl, hi, rfl, rfl⟩ := hrel
            have hin0 : (0 : Int) ≤ (i : Int) := by omega
            by_cases hlt : i < n.ks.length
            · have hi1 : (i : Int) < (n.ks.length : Int) := by omega
              obtain ⟨k, hk⟩ : ∃ k, n.ks[i]? = some k := ⟨_, List.getElem?_eq_getElem hlt⟩
              obtain ⟨kg, kcap, hka⟩ := As.form (HS1.out.get (i := 1) rfl) (by omega)
              cases hka
              have y1 := HS1.out.rowCell (i := 1) rfl i (.int .i64 k) (ints_get hk)
              have hkgl : kg < wr.heap.size := lt_of_cell y1
              have hkl := HLST.out i k hk
              have HSN := hideIt (lastK_snoc K n.ks hk)
              obtain ⟨la2, hla2⟩ : ∃ y, lastK (K ++ n.ks.take i) = y := ⟨_, rfl⟩
              rw [hla2] at hkl ⊢
              have hnle : ¬ (k ≤ la2) := by omega
              clear hk hla2 hkl
              go_wp2
              go_roundw
              case rel => exact ⟨i + 1, by go_num, by omega, by rw [HSN.out], by trivial⟩
              case measure => simp [intOf]; omega
            · obtain rfl : i = n.ks.length := by omega
              rw [List.take_length]
              go_upto_region 20 with fail
              have q0 := HS1.out.cell (i := 3) rfl 0 (.slice ta K.length tcap) rfl
              have f0 := HS1.out.free (i := 3) rfl 0
              go_cut [] from 15 to 102 (fun wy => ∃ kv', Hid (M w gt wy [.blk gn #[.int .i64 0, .int .i64 n.lk, .int .i64 n.hi, .slice ka n.ks.length kc, .slice va n.vs.length vc] 24, .row 3 1 (.slice ka n.ks.length kc) n.ks.length (ints n.ks), .row 3 1 (.slice va n.vs.length vc) n.vs.length (ints n.vs), .blk gt #[kv', .slice ua K.length ucap] 67, .row 3 1 kv' (K ++ n.ks).length (ints (K ++ n.ks)), .row 3 1 (.slice ua K.length ucap) K.length (ints V), .row 4 1 (.slice (some ⟨gb, 0, none⟩) 64 64) 64 (bools (bn.set p true))]))
              case first =>
                by_cases hks : n.ks.length = 0
                · have HZE : Hid (K ++ n.ks = K) := by unfold Hid; rw [List.eq_nil_of_length_eq_zero hks, List.append_nil]
                  have HS2 := hideIt ((HS1.out.store (i := 3) (j := 0) rfl (.slice ta K.length tcap) rfl).drew)
                  have HKS := hideIt hks
                  clear hks
                  go_region_law (refine step_append_zero rfl _ _ 22 rfl gt 3 i0 1 Tryd.underlying22 hi0 _ K.length (ints K) rfl (HS1.out.get (i := 4) rfl).own _ _ _ rfl HKS.out ?_)
                  all_goals
                    go_wp2
                    go_meet
                    case rel =>
                      refine ⟨.slice ta K.length tcap, ?_⟩
                      rw [HZE.out]
                      exact HS2.out
                · obtain ⟨kg, kcap, hka⟩ := As.form (HS1.out.get (i := 1) rfl) (by omega)
                  cases hka
                  have h378 := HKV.out
                  have hkr : As.holds wr gt (.row 3 1 (.slice (some ⟨kg, 0, none⟩) n.ks.length kc) n.ks.length (ints n.ks)) := HS1.out.get (i := 1) rfl
                  go_region_law (refine step_append_lies _ rfl _ _ 22 rfl gt 3 i0 (.int .i64 0) 1 8 Tryd.underlying22 hi0 hz0 hz1 hz2 rfl (by decide) _ K.length (ints K) rfl (HS1.out.get (i := 4) rfl) ⟨_, 0, none⟩ n.ks.length _ (ints n.ks) rfl (by rw [len_ints, Nat.mul_one]) (World.ownsRow.cells hkr rfl) (by simp [ints, Value.oneCell']) (by omega) (by unfold maxLen; omega) (by omega) HS1.out.sz _ rfl ?_; intro g1 cap1 w5 hown hgrow hat hlt1; rw [show ints K ++ ints n.ks = ints (K ++ n.ks) from by simp [ints]] at hown; have hm := HS1.out.drew.lies (i := 4) rfl hown hgrow hat; clear q0 f0 hown hgrow hat; have q0 := hm.cell (i := 3) rfl 0 (.slice ta K.length tcap) rfl; have f0 := hm.free (i := 3) rfl 0; have H1 := hideIt (hm.store (i := 3) (j := 0) rfl (.slice (some ⟨g1, 0, none⟩) (K.length + n.ks.length) cap1) rfl); clear hm)
                  all_goals
                    go_wp2
                    go_meet
                    case rel =>
                      have e : K.length + n.ks.length = (K ++ n.ks).length := by rw [List.length_append]
                      rw [e] at H1 ⊢
                      exact ⟨_, H1.out⟩
              case rest =>
                obtain ⟨kv', hM5⟩ := hcut
                clear q0 f0 n0 n3 hgnl HS1
                have n1 := hM5.out.cell (i := 0) rfl 1 (.int .i64 n.lk) rfl
                have n4 := hM5.out.cell (i := 0) rfl 4 (.slice va n.vs.length vc) rfl
                have hgnl : gn < wc.heap.size := lt_of_cell n1
                have q0 := hM5.out.cell (i := 3) rfl 1 (.slice ua K.length ucap) rfl
                have f0 := hM5.out.free (i := 3) rfl 1
                have HFIN : Hid (RowSt t ps true (lastK (K ++ n.ks)) n.lk (K ++ n.ks) (V ++ n.vs)) := by
                  obtain ⟨j', h1, h2, h3, h4⟩ := HNX.out
                  exact Or.inr ⟨j', h1, h2, by rw [← h3], h3, h4⟩
                have HLN : Hid ((V ++ n.vs).length = (K ++ n.ks).length ∧ (K ++ n.ks).length ≤ 384) := by
                  unfold Hid
                  rw [List.length_append, List.length_append]
                  have h1 := hkl.out.1
                  have h2 := HVL.out
                  have h3 := HKV.out
                  have h4 := HKL.out
                  omega
                go_upto_region 21 with fail
                by_cases hks : n.vs.length = 0
                · have HZE : Hid (V ++ n.vs = V ∧ (K ++ n.ks).length = K.length) := by
                    have h2 := HVL.out
                    refine ⟨by rw [List.eq_nil_of_length_eq_zero hks, List.append_nil], ?_⟩
                    rw [List.length_append]; omega
                  have HS2 := hideIt ((hM5.out.store (i := 3) (j := 1) rfl (.slice ua K.length ucap) rfl).drew)
                  have HKS := hideIt hks
                  clear hks
                  go_region_law (refine step_append_zero rfl _ _ 22 rfl gt 3 i0 1 Tryd.underlying22 hi0 _ K.length (ints V) rfl (hM5.out.get (i := 5) rfl).own _ _ _ rfl HKS.out ?_)
                  all_goals
                    have n1 := HS2.out.cell (i := 0) rfl 1 (.int .i64 n.lk) rfl
                    go_wp2
                    go_roundw
                    case rel =>
                      refine ⟨true, n.lk, _, K ++ n.ks, V ++ n.vs, kv', .slice ua K.length ucap, bn.set p true, rfl, rfl, rfl, HFIN.out, HLN.out, ⟨HB2.out.1, fun q hq => HB2.out.2 _ HNEAR.out q hq⟩, ?_⟩
                      have h9 := HS2.out.sub (l' := [_, _, _, _]) (List.sublist_append_right [_, _, _] [_, _, _, _])
                      rw [HZE.out.1]
                      rw [show (K ++ n.ks).length = K.length from HZE.out.2] at h9 ⊢
                      exact h9
                    case measure =>
                      show mq m n.lk < mq m (p : Int)
                      rw [mq_nat]; have := HNEAR.out; omega
                · obtain ⟨kg, kcap, hka⟩ := As.form (hM5.out.get (i := 2) rfl) (by omega)
                  cases hka
                  have h378 := HKV.out
                  have hkr : As.holds wc gt (.row 3 1 (.slice (some ⟨kg, 0, none⟩) n.vs.length vc) n.vs.length (ints n.vs)) := hM5.out.get (i := 2) rfl
                  have hv6 : n.vs.length ≤ 6 := by have := HVL.out; have := HKL.out; omega
                  go_region_law (refine step_append_lies _ rfl _ _ 22 rfl gt 3 i0 (.int .i64 0) 1 8 Tryd.underlying22 hi0 hz0 hz1 hz2 rfl (by decide) _ K.length (ints V) rfl (hM5.out.get (i := 5) rfl) ⟨_, 0, none⟩ n.vs.length _ (ints n.vs) rfl (by rw [len_ints, Nat.mul_one]) (World.ownsRow.cells hkr rfl) (by simp [ints, Value.oneCell']) (by omega) (by unfold maxLen; omega) (by omega) hM5.out.sz _ rfl ?_; intro g1 cap1 w5 hown hgrow hat hlt1; rw [show ints V ++ ints n.vs = ints (V ++ n.vs) from by simp [ints]] at hown; have hm := hM5.out.drew.lies (i := 5) rfl hown hgrow hat; clear q0 f0 hown hgrow hat; have q0 := hm.cell (i := 3) rfl 1 (.slice ua K.length ucap) rfl; have f0 := hm.free (i := 3) rfl 1; have H1 := hideIt (hm.store (i := 3) (j := 1) rfl (.slice (some ⟨g1, 0, none⟩) (K.length + n.vs.length) cap1) rfl); clear hm; have n1b := H1.out.cell (i := 0) rfl 1 (.int .i64 n.lk) rfl)
                  all_goals
                    go_wp2
                    go_roundw
                    case rel =>
                      have h9 := H1.out.sub (l' := [_, _, _, _]) (List.sublist_append_right [_, _, _] [_, _, _, _])
                      have e : K.length + n.vs.length = (K ++ n.ks).length := by rw [List.length_append]; have := HVL.out; omega
                      rw [e] at h9 ⊢
                      exact ⟨true, n.lk, lastK (K ++ n.ks), K ++ n.ks, V ++ n.vs, kv', .slice (some ⟨g1, 0, none⟩) (K ++ n.ks).length cap1, bn.set p true, rfl, rfl, rfl, HFIN.out, HLN.out, ⟨HB2.out.1, fun q hq => HB2.out.2 _ HNEAR.out q hq⟩, h9⟩
                    case measure =>
                      show mq m n.lk < mq m (p : Int)
                      rw [mq_nat]; have := HNEAR.out; omega
end Go.Proofs.YtajobgmnmbnhiaaDoor.Sap

/- WHAT IS PROVED HERE: saplingkeep's rows: over pages that are a tree, level by level, the first keys are the Highs of the nodes ahead, and each child is in the row below. Conditions: named at each theorem. -/
namespace Go.Proofs.YtajobgmnmbnhiaaDoor.Sap
open Go.RowKit

theorem chain_of {T : List ByteArray} {U : List Bool} {t : Tre} (hsay : ∀ p, t.inn p → Says T U p (t.nd p)) {l : Int} {p : Nat} {ps : List Nat} (R : RowF t l p ps) : Chain T U ps := fun i q hq => ⟨t.nd q, hsay q (R.inn q (List.mem_of_getElem? hq)).1, R.lk i q hq⟩
theorem natI_get {ps : List Nat} {i q : Nat} (h : ps[i]? = some q) : (natI ps)[i]? = some (q : Int) := by unfold natI; rw [List.getElem?_map, h]; rfl
/-- The level of the first page of a row in memory. -/
def rowLv (t : Tre) (v : Value) (w : World) : Nat := match v with
  | .slice (some a) _ _ => (match w.cell? a with
    | some (.int _ q) => (t.nd q.toNat).lv.toNat
    | _ => 0)
  | _ => 0
theorem rowLv_eq {t : Tre} {w : World} {g p n cap : Nat} (h : w.cell? ⟨g, 0, none⟩ = some (.int .i64 p)) : rowLv t (.slice (some ⟨g, 0, none⟩) n cap) w = (t.nd p).lv.toNat := by
  unfold rowLv
  simp only [h, Int.toNat_natCast]

/-- A level's row. -/
structure LvR (t : Tre) (p : Nat) (ps : List Nat) : Prop where
  inn : t.inn p
  low : t.low p = 0
  row : RowF t (t.nd p).lv p ps
  len : ps.length ≤ 64
  all : ∀ q, t.inn q → (t.nd q).lv = (t.nd p).lv → q ∈ ps
theorem LvR.first {t : Tre} (h : t.Ok) : LvR t 0 [0] := by
  obtain ⟨ps, h1, h2, h3, h4⟩ := row_all h h.r0 h.l0
  have hp : ∀ q ∈ ps, q = 0 := fun q hq => by
    have := h1.inn q hq
    rcases Nat.eq_zero_or_pos q with e | e
    · exact e
    · have := h.top q this.1 (by omega); omega
  have : ps = [0] := by
    have hd := h1.hd
    match ps, hd, h3, hp with
    | [a], hd, _, _ => cases hd; rfl
    | a :: b :: r, _, h3, hp =>
      have e1 := hp a (by simp)
      have e2 := hp b (by simp)
      rw [e1, e2] at h3
      simp at h3
  rw [this] at h1 h2 h4
  exact ⟨h.r0, h.l0, h1, h2, h4⟩
theorem LvR.down {t : Tre} (h : t.Ok) {p : Nat} {ps : List Nat} (L : LvR t p ps) (hl : 0 < (t.nd p).lv) : ∃ (c : Nat) (qs : List Nat), (t.nd p).vs[0]? = some (c : Int) ∧ (t.nd c).lv + 1 = (t.nd p).lv ∧ LvR t c qs := by
  obtain ⟨c, h1, h2, h3, h4⟩ := first_child h L.inn L.low hl
  obtain ⟨qs, r1, r2, -, r4⟩ := row_all h h2 h3
  exact ⟨c, qs, h1, h4, h2, h3, r1, r2, r4⟩

set_option maxRecDepth 100000 in
set_option maxHeartbeats 6400000 in
theorem rows_yes (gw tg tc ug uc : Nat) (T : List ByteArray) (U : List Bool) (t : Tre) (w : World) (h : PgR gw tg tc ug uc T U w) (ht : t.Ok) (hsay : ∀ p, t.inn p → Says T U p (t.nd p)) :
    Calls Tryd.prog 103 #[.pointer (some ⟨gw, 0, none⟩)] w fun e w' => e = .returned (.bool true) ∧ Below w.heap.size w w' := by
  have HP := hideIt h
  have HS := hideIt hsay
  have HT := hideIt ht
  have A0 : Hid (M w w.heap.size (w.alloc (.cells #[.int .i64 0] 3)) [.row 3 1 (.slice (some ⟨w.heap.size, 0, none⟩) 1 1) [0].length (ints (natI [0]))]) := M.blkRow ((M.start w).alloc #[.int .i64 0] 3) (by decide)
  have HR0 := hideIt (LvR.first ht)
  clear h hsay ht
  go_enter Tryd.func103, Tryd.ntmps103
  go_wp2
  obtain ⟨gt, hgt⟩ : ∃ g, w.heap.size = g := ⟨_, rfl⟩
  have HGT := hideIt hgt
  rw [hgt] at A0 ⊢
  clear hgt
  go_loopw [3] (fun rv wr => ∃ (p : Nat) (ps : List Nat), Hid (LvR t p ps) ∧ Hid (M w gt wr [.row 3 1 rv ps.length (ints (natI ps))])) (fun rv wr => rowLv t rv wr)
  case atStart => exact ⟨0, [0], HR0.out, A0.out⟩
  case round =>
    clear A0 HR0
    obtain ⟨p, ps, hR, hM⟩ := hrel
    have hbl : Hid (Below w.heap.size w wr) := by have := hM.out.bl; rw [← HGT.out] at this; exact this
    have hp0 := hR.out.row.hd
    have hpl : 0 < ps.length := (List.getElem?_eq_some_iff.1 hp0).1
    obtain ⟨m, hm⟩ : ∃ m, ps.length = m := ⟨_, rfl⟩
    have HMM := hideIt hm
    rw [hm] at hM hpl
    have hm64 : m ≤ 64 := by rw [← hm]; exact hR.out.len
    obtain ⟨rg, rc, rfl⟩ := As.form (hM.out.get (i := 0) rfl) hpl
    have y0 := hM.out.rowCell (i := 0) rfl 0 (.int .i64 p) (ints_get (natI_get hp0))
    have hrgl : rg < wr.heap.size := lt_of_cell y0
    have hm0 : (0 : Int) < (m : Int) := by omega
    have HLV := hideIt (rowLv_eq (t := t) (n := m) (cap := rc) y0)
    have CS := hideIt (says_yes gw tg tc ug uc p T U (t.nd p) wr (HP.out.below hbl.out) (HS.out p hR.out.inn))
    have hlv0 := (right_bd _ (HT.out.rt p hR.out.inn)).1
    obtain ⟨n, hn⟩ : ∃ n, t.nd p = n := ⟨_, rfl⟩
    have HN := hideIt hn
    rw [hn] at CS hlv0 HLV
    clear hn hp0 hm
    go_wp2_with fail
    refine CS.out.mono ?_
    rintro e w1 ⟨kv1, vv1, rfl, hM1⟩
    obtain ⟨ka, kc, rfl⟩ := As.form0 (hM1.get (i := 0) rfl)
    obtain ⟨va, vc, rfl⟩ := As.form0 (hM1.get (i := 1) rfl)
    have HM3 := hideIt ((hM.out.join hM1).alloc #[.int .i64 n.lv, .int .i64 n.lk, .int .i64 n.hi, .slice ka n.ks.length kc, .slice va n.vs.length vc] 24)
    clear CS hM1 hM hbl y0 hrgl
    by_cases hlv : n.lv = 0
    · have HB := hideIt HM3.out.bl
      rw [← HGT.out] at HB
      have hlb : (n.lv == 0) = true := by simp [hlv]
      clear HM3 hlv
      go_wp2
      go_ret
      first | exact ⟨rfl, HB.out⟩ | exact ⟨ret_bool hlb, HB.out⟩
    · obtain ⟨c, qs, hc1, hc2, hQ⟩ := hR.out.down HT.out (by rw [HN.out]; omega)
      rw [HN.out] at hc1 hc2
      have HQ := hideIt hQ
      have HC2 := hideIt hc2
      have hvl : 0 < n.vs.length := (List.getElem?_eq_some_iff.1 hc1).1
      have hvl0 : (0 : Int) < (n.vs.length : Int) := by omega
      have hvb : ((n.vs.length : Int) == 0) = false := by rw [beq_eq_false_iff_ne]; omega
      have hvb2 : (n.vs.length == 0) = false := by rw [beq_eq_false_iff_ne]; omega
      have hlb : (n.lv == 0) = false := by simp [hlv]
      obtain ⟨vg, vcap, hva⟩ := As.form (HM3.out.get (i := 2) rfl) hvl
      cases hva
      obtain ⟨gn, hgn⟩ : ∃ g, w1.heap.size = g := ⟨_, rfl⟩
      obtain ⟨w2, hw2⟩ : ∃ W, w1.alloc (.cells #[.int .i64 n.lv, .int .i64 n.lk, .int .i64 n.hi, .slice ka n.ks.length kc, .slice (some ⟨vg, 0, none⟩) n.vs.length vc] 24) = W := ⟨_, rfl⟩
      have HW2 := hideIt hw2
      have HGN := hideIt hgn
      rw [hw2, hgn] at HM3
      have y1 := HM3.out.rowCell (i := 2) rfl 0 (.int .i64 c) (ints_get hc1)
      have n0 := HM3.out.cell (i := 0) rfl 0 (.int .i64 n.lv) rfl
      have n4 := HM3.out.cell (i := 0) rfl 4 (.slice (some ⟨vg, 0, none⟩) n.vs.length vc) rfl
      have hgnl : gn < w2.heap.size := lt_of_cell n0
      have hvgl : vg < w2.heap.size := lt_of_cell y1
      have hbl2 : Below w.heap.size w w2 := by have := HM3.out.bl; rw [← HGT.out] at this; exact this
      have CA := hideIt (along_yes gw tg tc ug uc c T U qs w2 (HP.out.below hbl2) (chain_of HS.out hQ.row) hQ.row.hd hQ.len)
      clear hw2 hgn hc1 hc2 hQ hbl2
      go_upto_region 3 with fail
      rw [HW2.out, HGN.out]
      clear HW2 HGN
      go_wp2_with fail
      refine CA.out.mono ?_
      rintro e w3 ⟨bv, rfl, hM4⟩
      obtain ⟨mb, hmb⟩ : ∃ m, qs.length = m := ⟨_, rfl⟩
      have HMB := hideIt hmb
      rw [hmb] at hM4
      have HM5 := hideIt ((HM3.out.join hM4).sub (l' := [.row 3 1 bv mb (ints (natI qs)), .row 3 1 (.slice (some ⟨rg, 0, none⟩) m rc) m (ints (natI ps))]) (List.Sublist.cons_cons _ (List.sublist_append_right [_, _, _] [_])))
      clear CA hM4 HM3 n0 n4 y1 hgnl hvgl hmb
      go_wp2
      go_loopw [7] (fun vi wi => ∃ i : Nat, vi = .int .i64 i ∧ i ≤ m ∧ Hid (M w gt wi [.row 3 1 bv mb (ints (natI qs)), .row 3 1 (.slice (some ⟨rg, 0, none⟩) m rc) m (ints (natI ps))])) (fun vi _ => m - (intOf vi).toNat)
      case atStart => exact ⟨0, rfl, by omega, HM5.out⟩
      case round =>
        clear HM5
        obtain ⟨i, rfl, hi, hM⟩ := hrel
        have hi0 : (0 : Int) ≤ (i : Int) := by omega
        by_cases hlt : i < m
        · have hi1 : (i : Int) < (m : Int) := by omega
          obtain ⟨q, hq⟩ : ∃ q, ps[i]? = some q := ⟨_, List.getElem?_eq_getElem (by rw [HMM.out]; exact hlt)⟩
          have hqi := hR.out.row.inn q (List.mem_of_getElem? hq)
          have hlp : 0 < (t.nd p).lv := by rw [HN.out]; omega
          obtain ⟨a, r, hks, hfr⟩ := hR.out.row.first HT.out hR.out.low hlp hq
          have HCH : Hid (∀ key v, (key, v) ∈ ent (t.nd q) → ∃ c j : Nat, v = (c : Int) ∧ qs[j]? = some c ∧ (∀ j', j' < j → qs[j']? ≠ some c) ∧ (j = 0 ∨ ∃ a, qs[j - 1]? = some a ∧ (t.nd a).hi ≤ key)) := fun key v he => by
            have e : (t.nd p).lv - 1 = (t.nd c).lv := by rw [HN.out]; have := HC2.out; omega
            exact hR.out.row.child HT.out hlp (Q := by rw [e]; exact HQ.out.row) (fun x hx hl => HQ.out.all x hx (by rw [hl, e])) (List.mem_of_getElem? hq) he
          have hbl3 : Below w.heap.size w wr := by have := hM.out.bl; rw [← HGT.out] at this; exact this
          have CS := hideIt (says_yes gw tg tc ug uc q T U (t.nd q) wr (HP.out.below hbl3) (HS.out q hqi.1))
          have hrd := right_bd _ (HT.out.rt q hqi.1)
          obtain ⟨d, hd⟩ : ∃ d, t.nd q = d := ⟨_, rfl⟩
          have HD := hideIt hd
          rw [hd] at CS hks HCH hrd
          have HKS := hideIt hks
          have hkl : 0 < d.ks.length := by rw [hks]; simp
          have HVL : Hid (d.ks.length = d.vs.length) := hrd.2.2.2.1
          have hk6 : d.ks.length ≤ 6 := hrd.2.2.2.2.1
          have hvl2 : 0 < d.vs.length := by have := HVL.out; omega
          have yq := hM.out.rowCell (i := 1) rfl i (.int .i64 q) (ints_get (natI_get hq))
          have HFR := hideIt hfr
          clear hd hks hrd hqi hlp hfr hbl3
          have hrgl : rg < wr.heap.size := lt_of_cell yq
          go_wp2_with fail
          refine CS.out.mono ?_
          rintro e w4 ⟨kv4, vv4, rfl, hM4⟩
          obtain ⟨kg, kc2, rfl⟩ := As.form (hM4.get (i := 0) rfl) hkl
          obtain ⟨vg2, vc2, rfl⟩ := As.form (hM4.get (i := 1) rfl) hvl2
          have HM7 := hideIt ((hM.out.join hM4).alloc #[.int .i64 d.lv, .int .i64 d.lk, .int .i64 d.hi, .slice (some ⟨kg, 0, none⟩) d.ks.length kc2, .slice (some ⟨vg2, 0, none⟩) d.vs.length vc2] 24)
          obtain ⟨g2, hg2⟩ : ∃ g, w4.heap.size = g := ⟨_, rfl⟩
          obtain ⟨w5, hw5⟩ : ∃ W, w4.alloc (.cells #[.int .i64 d.lv, .int .i64 d.lk, .int .i64 d.hi, .slice (some ⟨kg, 0, none⟩) d.ks.length kc2, .slice (some ⟨vg2, 0, none⟩) d.vs.length vc2] 24) = W := ⟨_, rfl⟩
          have HW5 := hideIt hw5
          have HG2 := hideIt hg2
          rw [hw5, hg2] at HM7
          clear CS hM4 hM hw5 hg2 yq hrgl hq
          go_upto_region 11 with fail
          rw [HW5.out, HG2.out]
          clear HW5 HG2
          go_upto_if 58 with fail
          go_cut [10, 11, 12] from 42 to 104 (fun f _ _ wy => f = .int .i64 a ∧ Hid (M w gt wy [.blk g2 #[.int .i64 d.lv, .int .i64 d.lk, .int .i64 d.hi, .slice (some ⟨kg, 0, none⟩) d.ks.length kc2, .slice (some ⟨vg2, 0, none⟩) d.vs.length vc2] 24, .row 3 1 (.slice (some ⟨kg, 0, none⟩) d.ks.length kc2) d.ks.length (ints d.ks), .row 3 1 (.slice (some ⟨vg2, 0, none⟩) d.vs.length vc2) d.vs.length (ints d.vs), .row 3 1 bv mb (ints (natI qs)), .row 3 1 (.slice (some ⟨rg, 0, none⟩) m rc) m (ints (natI ps))]))
          case first =>
            rcases HFR.out with ⟨hi00, ha0⟩ | ⟨b, hib, hb, hab⟩
            · subst hi00
              subst ha0
              clear HFR
              go_wp2
              go_meet
              case rel => exact ⟨rfl, HM7.out⟩
            · obtain ⟨i', rfl⟩ : ∃ i', i = i' + 1 := ⟨i - 1, by omega⟩
              rw [Nat.add_sub_cancel] at hb
              have hbi := hR.out.row.inn b (List.mem_of_getElem? hb)
              have hbl4 : Below w.heap.size w w5 := by have := HM7.out.bl; rw [← HGT.out] at this; exact this
              have CS2 := hideIt (says_yes gw tg tc ug uc b T U (t.nd b) w5 (HP.out.below hbl4) (HS.out b hbi.1))
              have yb := HM7.out.rowCell (i := 4) rfl i' (.int .i64 b) (ints_get (natI_get hb))
              have hrgl : rg < w5.heap.size := lt_of_cell yb
              obtain ⟨f, hf⟩ : ∃ f, t.nd b = f := ⟨_, rfl⟩
              rw [hf] at CS2 hab
              have HAB := hideIt hab
              have hj2 : (0 : Int) ≤ (i' : Int) := by omega
              have hj3 : (i' : Int) < (m : Int) := by omega
              have hj4 : (0 : Int) < (i' : Int) + 1 := by omega
              clear hf hab hb hbi hbl4 HFR hib
              go_wp2_with fail
              refine CS2.out.mono ?_
              rintro e w6 ⟨kv6, vv6, rfl, hM6⟩
              obtain ⟨ka6, kc6, rfl⟩ := As.form0 (hM6.get (i := 0) rfl)
              obtain ⟨va6, vc6, rfl⟩ := As.form0 (hM6.get (i := 1) rfl)
              have HM8 := hideIt (((HM7.out.join hM6).alloc #[.int .i64 f.lv, .int .i64 f.lk, .int .i64 f.hi, .slice ka6 f.ks.length kc6, .slice va6 f.vs.length vc6] 24).sub (l' := [.blk g2 #[.int .i64 d.lv, .int .i64 d.lk, .int .i64 d.hi, .slice (some ⟨kg, 0, none⟩) d.ks.length kc2, .slice (some ⟨vg2, 0, none⟩) d.vs.length vc2] 24, .row 3 1 (.slice (some ⟨kg, 0, none⟩) d.ks.length kc2) d.ks.length (ints d.ks), .row 3 1 (.slice (some ⟨vg2, 0, none⟩) d.vs.length vc2) d.vs.length (ints d.vs), .row 3 1 bv mb (ints (natI qs)), .row 3 1 (.slice (some ⟨rg, 0, none⟩) m rc) m (ints (natI ps))]) (List.sublist_append_right [_, _, _] [As.blk g2 #[.int .i64 d.lv, .int .i64 d.lk, .int .i64 d.hi, .slice (some ⟨kg, 0, none⟩) d.ks.length kc2, .slice (some ⟨vg2, 0, none⟩) d.vs.length vc2] 24, As.row 3 1 (.slice (some ⟨kg, 0, none⟩) d.ks.length kc2) d.ks.length (ints d.ks), As.row 3 1 (.slice (some ⟨vg2, 0, none⟩) d.vs.length vc2) d.vs.length (ints d.vs), As.row 3 1 bv mb (ints (natI qs)), As.row 3 1 (.slice (some ⟨rg, 0, none⟩) m rc) m (ints (natI ps))]))
              clear CS2 hM6 yb hrgl
              go_wp2
              go_meet
              case rel => exact ⟨by rw [HAB.out], HM8.out⟩
          case rest =>
            obtain ⟨rfl, hM8⟩ := hcut
            clear HM7 HFR
            have HM8 := hideIt hM8.out
            obtain ⟨nk, hnk⟩ : ∃ n, d.ks.length = n := ⟨_, rfl⟩
            have HNK := hideIt hnk
            have n3 := HM8.out.cell (i := 0) rfl 3 (.slice (some ⟨kg, 0, none⟩) d.ks.length kc2) rfl
            have k0 := HM8.out.rowCell (i := 1) rfl 0 (.int .i64 a) (ints_get (by rw [HKS.out]; rfl))
            have hg2l : g2 < wc.heap.size := lt_of_cell n3
            have hkgl : kg < wc.heap.size := lt_of_cell k0
            have hkl0 : (0 : Int) < (d.ks.length : Int) := by omega
            have hkb : ((d.ks.length : Int) == 0) = false := by rw [beq_eq_false_iff_ne]; omega
            have hkb2 : (d.ks.length == 0) = false := by rw [beq_eq_false_iff_ne]; omega
            have hab : (a != a) = false := by simp
            clear hnk hM8
            go_wp2
            go_loopw [13] (fun vk wj => ∃ k : Nat, vk = .int .i64 k ∧ k ≤ d.ks.length ∧ Hid (M w gt wj [.blk g2 #[.int .i64 d.lv, .int .i64 d.lk, .int .i64 d.hi, .slice (some ⟨kg, 0, none⟩) d.ks.length kc2, .slice (some ⟨vg2, 0, none⟩) d.vs.length vc2] 24, .row 3 1 (.slice (some ⟨kg, 0, none⟩) d.ks.length kc2) d.ks.length (ints d.ks), .row 3 1 (.slice (some ⟨vg2, 0, none⟩) d.vs.length vc2) d.vs.length (ints d.vs), .row 3 1 bv mb (ints (natI qs)), .row 3 1 (.slice (some ⟨rg, 0, none⟩) m rc) m (ints (natI ps))])) (fun vk _ => d.ks.length - (intOf vk).toNat)
            case atStart => exact ⟨0, rfl, by omega, HM8.out⟩
            case round =>
              clear HM8 n3 k0 hg2l hkgl
              obtain ⟨k, rfl, hk, hM9⟩ := hrel
              have hk0 : (0 : Int) ≤ (k : Int) := by omega
              have n3 := hM9.out.cell (i := 0) rfl 3 (.slice (some ⟨kg, 0, none⟩) d.ks.length kc2) rfl
              have hg2l : g2 < wr.heap.size := lt_of_cell n3
              by_cases hlk : k < d.ks.length
              · have hk1 : (k : Int) < (d.ks.length : Int) := by omega
                have hkv : k < d.vs.length := by have := HVL.out; omega
                have hk2 : (k : Int) < (d.vs.length : Int) := by omega
                obtain ⟨key, hkey⟩ : ∃ y, d.ks[k]? = some y := ⟨_, List.getElem?_eq_getElem hlk⟩
                obtain ⟨v, hv⟩ : ∃ y, d.vs[k]? = some y := ⟨_, List.getElem?_eq_getElem hkv⟩
                obtain ⟨c', j', hvc, hj1, hj2, hj3⟩ := HCH.out key v (List.mem_iff_getElem?.2 ⟨k, by show (d.ks.zip d.vs)[k]? = _; rw [List.getElem?_zip_eq_some]; exact ⟨hkey, hv⟩⟩)
                subst hvc
                have n4 := hM9.out.cell (i := 0) rfl 4 (.slice (some ⟨vg2, 0, none⟩) d.vs.length vc2) rfl
                have yk := hM9.out.rowCell (i := 1) rfl k (.int .i64 key) (ints_get hkey)
                have yv := hM9.out.rowCell (i := 2) rfl k (.int .i64 c') (ints_get hv)
                have hkgl : kg < wr.heap.size := lt_of_cell yk
                have hvgl : vg2 < wr.heap.size := lt_of_cell yv
                have PL : Hid (∀ W, M w gt W [.blk g2 #[.int .i64 d.lv, .int .i64 d.lk, .int .i64 d.hi, .slice (some ⟨kg, 0, none⟩) d.ks.length kc2, .slice (some ⟨vg2, 0, none⟩) d.vs.length vc2] 24, .row 3 1 (.slice (some ⟨kg, 0, none⟩) d.ks.length kc2) d.ks.length (ints d.ks), .row 3 1 (.slice (some ⟨vg2, 0, none⟩) d.vs.length vc2) d.vs.length (ints d.vs), .row 3 1 bv mb (ints (natI qs)), .row 3 1 (.slice (some ⟨rg, 0, none⟩) m rc) m (ints (natI ps))] → Calls Tryd.prog 114 #[.pointer (some ⟨gw, 0, none⟩), bv, .int .i64 c', .int .i64 key] W fun e w' => e = .returned (.bool true) ∧ Below W.heap.size W w') := fun W hW => by
                  have hb : Below w.heap.size w W := by have := hW.bl; rw [← HGT.out] at this; exact this
                  have hrow := (hW.get (i := 3) rfl).own
                  have hnl : (natI qs).length = mb := by unfold natI; rw [List.length_map]; exact HMB.out
                  rw [← hnl] at hrow
                  refine placed_yes gw tg tc ug uc c' j' mb T U qs bv key W (HP.out.below hb) (owns_rd hrow) HMB.out (by rw [← HMB.out]; exact HQ.out.len) hj1 hj2 ?_
                  rcases hj3 with h0 | ⟨x, hx1, hx2⟩
                  · exact Or.inl h0
                  · exact Or.inr ⟨x, t.nd x, hx1, HS.out x (HQ.out.row.inn x (List.mem_of_getElem? hx1)).1, hx2⟩
                have HKEY := hideIt hkey
                have HV := hideIt hv
                clear hkey hv hj1 hj2 hj3
                go_upto_region 19 with fail
                go_cut [14] from 83 to 104 (fun o wy => o = .bool true ∧ Hid (M w gt wy [.blk g2 #[.int .i64 d.lv, .int .i64 d.lk, .int .i64 d.hi, .slice (some ⟨kg, 0, none⟩) d.ks.length kc2, .slice (some ⟨vg2, 0, none⟩) d.vs.length vc2] 24, .row 3 1 (.slice (some ⟨kg, 0, none⟩) d.ks.length kc2) d.ks.length (ints d.ks), .row 3 1 (.slice (some ⟨vg2, 0, none⟩) d.vs.length vc2) d.vs.length (ints d.vs), .row 3 1 bv mb (ints (natI qs)), .row 3 1 (.slice (some ⟨rg, 0, none⟩) m rc) m (ints (natI ps))]))
                case first =>
                  go_region_held3 (fun W => W.cell? ⟨g2, 3, none⟩ = some (.slice (some ⟨kg, 0, none⟩) d.ks.length kc2) ∧ W.cell? ⟨g2, 4, none⟩ = some (.slice (some ⟨vg2, 0, none⟩) d.vs.length vc2) ∧ W.cell? ⟨kg, k, none⟩ = some (.int .i64 key) ∧ W.cell? ⟨vg2, k, none⟩ = some (.int .i64 c')) (go_keep) ((go_at_call 114; refine (PL.out _ hM9.out.drew).mono ?_; rintro e w9 ⟨rfl, hb9⟩; have H9 := hideIt (hM9.out.drew.below hb9); have z1 := H9.out.cell (i := 0) rfl 3 (.slice (some ⟨kg, 0, none⟩) d.ks.length kc2) rfl; have z2 := H9.out.cell (i := 0) rfl 4 (.slice (some ⟨vg2, 0, none⟩) d.vs.length vc2) rfl; have z3 := H9.out.rowCell (i := 1) rfl k (.int .i64 key) (ints_get HKEY.out); have z4 := H9.out.rowCell (i := 2) rfl k (.int .i64 c') (ints_get HV.out); clear hb9))
                  all_goals
                    go_wp2
                    go_meet
                    case rel => exact ⟨rfl, H9.out⟩
                case rest =>
                  obtain ⟨rfl, hM10⟩ := hcut
                  clear hM9 n3 n4 yk yv hkgl hvgl hg2l PL
                  go_wp2
                  go_roundw
                  case rel => exact ⟨k + 1, by go_num, by omega, hM10.out⟩
                  case measure => simp [intOf]; omega
              · obtain rfl : k = d.ks.length := by omega
                have HM10 := hideIt (hM9.out.sub (l' := [.row 3 1 bv mb (ints (natI qs)), .row 3 1 (.slice (some ⟨rg, 0, none⟩) m rc) m (ints (natI ps))]) (List.sublist_append_right [_, _, _] [_, _]))
                clear hM9
                go_wp2
                go_roundw
                case rel => exact ⟨i + 1, by go_num, by omega, HM10.out⟩
                case measure => simp [intOf]; omega
        · obtain rfl : i = m := by omega
          have HM6 := hideIt (hM.out.sub (l' := [.row 3 1 bv mb (ints (natI qs))]) (List.sublist_append_left [_] [_]))
          have hq0 := HQ.out.row.hd
          have hql : 0 < mb := by rw [← HMB.out]; exact (List.getElem?_eq_some_iff.1 hq0).1
          obtain ⟨bg, bc, hbv⟩ := As.form (hM.out.get (i := 0) rfl) hql
          have yb := hM.out
          rw [hbv] at yb
          have yb0 := yb.rowCell (i := 0) rfl 0 (.int .i64 c) (ints_get (natI_get hq0))
          have HLB := hideIt (rowLv_eq (t := t) (n := mb) (cap := bc) yb0)
          have HBV := hideIt hbv
          clear hM yb yb0 hq0 hbv
          go_wp2
          go_roundw
          case rel => exact ⟨c, qs, HQ.out, by rw [HMB.out]; exact HM6.out⟩
          case measure =>
            have h1 := HLV.out
            have h2 := HLB.out
            rw [← HBV.out] at h2
            have h3 := HC2.out
            show rowLv t bv _ < rowLv t _ _
            rw [h2, h1]
            omega
end Go.Proofs.YtajobgmnmbnhiaaDoor.Sap
