/- WHAT IS PROVED HERE: what tree.addList, tree.frameText and tree.Begin answer: a frame's text. Conditions: the table of powers of ten is laid; lists of at most 64 ints. -/
import Derived.Test.YtjpgldeeopmbgaaDoorU0
namespace Go.Proofs.YtjpgldeeopmbgaaDoor.Sap
open Go.RowKit

set_option maxRecDepth 100000 in
set_option maxHeartbeats 800000 in
theorem addList_any (b : ByteArray) (v : Value) (xs : List Int) (w : World) (htab : Tab w) (hb : b.size ≤ 10000) (hr : Rd w v xs) (hl : xs.length ≤ 64) (hx : ∀ x ∈ xs, I64 x) :
    Calls Tryd.prog 80 #[.string b, v] w fun e w' => Txt e (b.data.toList ++ lst xs) ∧ Below w.heap.size w w' := by
  have HR := hideIt hr
  have HX := hideIt hx
  obtain ⟨ao, cap, rfl⟩ := hr.len
  obtain ⟨m, hm⟩ : ∃ m, xs.length = m := ⟨_, rfl⟩
  have HM := hideIt hm
  rw [hm] at HR hl ⊢
  clear hr hx hm
  go_enter Tryd.func80, Tryd.ntmps80
  go_wp2_with fail
  refine (addNumber_any b m w htab (by omega) (by unfold I64; omega)).mono ?_
  rintro e w1 ⟨⟨c, rfl, hc⟩, hb1⟩
  have HC := hideIt hc
  have HB := hideIt hb1
  have ht1 := htab.below hb1
  clear hc hb1
  go_wp2
  go_loopw [0, 5] (fun t i wr => ∃ k : Nat, ∃ c : ByteArray, k ≤ m ∧ i = .int .i64 k ∧ t = .string c ∧ Hid (c.data.toList = b.data.toList ++ (nb m ++ nbs (xs.take k))) ∧ Hid (Below w.heap.size w wr)) (fun t i _ => m - (intOf i).toNat)
  case atStart => exact ⟨0, c, Nat.zero_le _, rfl, rfl, by unfold Hid; rw [HC.out]; simp [nbs], HB.out⟩
  case round =>
    obtain ⟨k, c, hk, rfl, rfl, hc, hbw⟩ := hrel
    by_cases hlt : k < m
    · obtain ⟨b1, o1, rfl, -, x1⟩ := HR.out.elem k hlt
      have y1 := x1 _ hbw.out
      have hkk : (0 : Int) ≤ (k : Int) := by omega
      have hkl : (k : Int) < (m : Int) := by omega
      have hsz : c.size ≤ 100000 := by
        rw [← ba_size, hc.out, List.length_append, List.length_append, ba_size]
        have h1 := nb_len m (by unfold I64; omega)
        have h2 := nbs_len (xs.take k) (fun x hx => HX.out x (List.mem_of_mem_take hx))
        rw [List.length_take] at h2
        omega
      have hi : I64 (xs[k]?.getD 0) := HX.out _ (mem_at (by rw [HM.out]; exact hlt))
      clear x1
      go_wp2_with fail
      refine (addNumber_any c _ _ (htab.below hbw.out) hsz hi).mono ?_
      rintro e w2 ⟨⟨c2, rfl, hc2⟩, hb2⟩
      have HC2 := hideIt hc2
      have HB2 := hideIt (step hbw.out hb2)
      clear hc2 hb2
      go_wp2
      go_roundw
      case rel => exact ⟨k + 1, c2, by omega, by go_num, rfl, by unfold Hid; rw [HC2.out, hc.out, nbs_snoc xs k (by rw [HM.out]; exact hlt)]; simp [List.append_assoc], HB2.out⟩
      case measure => simp [intOf]; omega
    · have hkm : k = m := by omega
      go_wp2
      go_ret
      refine ⟨⟨c, rfl, ?_⟩, hbw.out⟩
      rw [hc.out, hkm]
      unfold lst
      rw [HM.out, ← HM.out, List.take_length]

/-- A state's parts as values. -/
structure StV (w : World) (s : St) (kv vv bv pv : Value) : Prop where
  keys : Rd w kv s.keys
  vals : Rd w vv s.vals
  bel : Rd w bv s.bel
  pts : Rd w pv s.pts
theorem StV.below {w w' : World} {s : St} {kv vv bv pv : Value} (h : StV w s kv vv bv pv) (hb : Below w.heap.size w w') : StV w' s kv vv bv pv := ⟨h.keys.below hb, h.vals.below hb, h.bel.below hb, h.pts.below hb⟩
/-- The numbers of a state are ints, its lists short. -/
structure StI (s : St) : Prop where
  kd : I64 s.kd
  key : I64 s.key
  val : I64 s.val
  step : I64 s.step
  pg : I64 s.pg
  ver : I64 s.ver
  va : I64 s.va
  keys : ∀ x ∈ s.keys, I64 x
  vals : ∀ x ∈ s.vals, I64 x
  bel : ∀ x ∈ s.bel, I64 x
  pts : ∀ x ∈ s.pts, I64 x
  keysL : s.keys.length ≤ 12
  valsL : s.vals.length ≤ 12
  belL : s.bel.length ≤ 64
  ptsL : s.pts.length ≤ 64
  swL : s.sw.size ≤ 47

theorem fl_I (b : Bool) : I64 (fl b) := by unfold fl I64; split <;> omega
set_option maxRecDepth 100000 in
set_option maxHeartbeats 800000 in
theorem addFlag_any (b : ByteArray) (f : Bool) (w : World) (htab : Tab w) (hb : b.size ≤ 100000) :
    Calls Tryd.prog 81 #[.string b, .bool f] w fun e w' => Txt e (b.data.toList ++ nb (fl f)) ∧ Below w.heap.size w w' := by
  have C := hideIt (fun n hn => addNumber_any b n w htab hb hn)
  cases f
  · go_enter Tryd.func81, Tryd.ntmps81
    go_wp2_with fail
    refine (C.out 0 (by unfold I64; omega)).mono ?_
    rintro e w1 ⟨⟨c, rfl, hc⟩, hb1⟩
    have HC := hideIt hc
    have HB := hideIt hb1
    clear hc hb1
    go_wp2
    go_ret
    exact ⟨⟨c, rfl, HC.out⟩, HB.out⟩
  · go_enter Tryd.func81, Tryd.ntmps81
    go_wp2_with fail
    refine (C.out 1 (by unfold I64; omega)).mono ?_
    rintro e w1 ⟨⟨c, rfl, hc⟩, hb1⟩
    have HC := hideIt hc
    have HB := hideIt hb1
    clear hc hb1
    go_wp2
    go_ret
    exact ⟨⟨c, rfl, HC.out⟩, HB.out⟩

set_option maxRecDepth 100000 in
set_option maxHeartbeats 3200000 in
theorem frameText_any (s : St) (kv vv bv pv : Value) (w : World) (htab : Tab w) (hv : StV w s kv vv bv pv) (hi : StI s) :
    Calls Tryd.prog 57 #[.agg #[.int .i64 s.kd, .int .i64 s.key, .int .i64 s.val, .int .i64 s.step, .int .i64 s.pg, kv, vv, bv, pv, .string s.sw, .int .i64 s.ver, .bool s.fnd, .int .i64 s.va]] w fun e w' => Txt e (frT s) ∧ Below w.heap.size w w' := by
  have l_kd := nb_len _ hi.kd
  have l_key := nb_len _ hi.key
  have l_val := nb_len _ hi.val
  have l_step := nb_len _ hi.step
  have l_pg := nb_len _ hi.pg
  have l_keys := lst_len _ hi.keys (by have := hi.keysL; omega)
  have l_vals := lst_len _ hi.vals (by have := hi.valsL; omega)
  have l_bel := lst_len _ hi.bel (by have := hi.belL; omega)
  have l_pts := lst_len _ hi.pts (by have := hi.ptsL; omega)
  have l_ver := nb_len _ hi.ver
  have l_fnd := nb_len _ (fl_I s.fnd)
  have l_va := nb_len _ hi.va
  have l_sw := nb_len (s.sw.size : Int) (by have := hi.swL; unfold I64; omega)
  have HL : Hid ((nb s.kd).length + (nb s.key).length + (nb s.val).length + (nb s.step).length + (nb s.pg).length + (lst s.keys).length + (lst s.vals).length + (lst s.bel).length + (lst s.pts).length + (nb s.ver).length + (nb (fl s.fnd)).length + (nb s.va).length + (nb (s.sw.size : Int)).length ≤ 10000) := by
    have := hi.keysL
    have := hi.valsL
    have := hi.belL
    have := hi.ptsL
    unfold Hid; omega
  have HV := hideIt hv
  have HI := hideIt hi
  clear l_kd l_key l_val l_step l_pg l_keys l_vals l_bel l_pts l_ver l_fnd l_va l_sw hv hi
  obtain ⟨ak, ck, rfl⟩ := HV.out.keys.len
  obtain ⟨av, cv, rfl⟩ := HV.out.vals.len
  obtain ⟨ab, cb, rfl⟩ := HV.out.bel.len
  obtain ⟨ap, cp, rfl⟩ := HV.out.pts.len
  have N0 := hideIt (heap_alloc_new w (.cells #[.int .i64 s.kd, .int .i64 s.key, .int .i64 s.val, .int .i64 s.step, .int .i64 s.pg, .slice ak s.keys.length ck, .slice av s.vals.length cv, .slice ab s.bel.length cb, .slice ap s.pts.length cp, .string s.sw, .int .i64 s.ver, .bool s.fnd, .int .i64 s.va] 104))
  have B0 := hideIt ((Below.refl w.heap.size w).alloc (Nat.le_refl _) (.cells #[.int .i64 s.kd, .int .i64 s.key, .int .i64 s.val, .int .i64 s.step, .int .i64 s.pg, .slice ak s.keys.length ck, .slice av s.vals.length cv, .slice ab s.bel.length cb, .slice ap s.pts.length cp, .string s.sw, .int .i64 s.ver, .bool s.fnd, .int .i64 s.va] 104))
  go_enter Tryd.func57, Tryd.ntmps57
  go_wp2_with fail
  refine (addNumber_any ⟨#[]⟩ _ _ (htab.below B0.out) (by decide) HI.out.kd).mono ?_
  rintro e w1 ⟨⟨c1, rfl, hc⟩, hb⟩
  have C1 := hideIt hc
  have B1 := hideIt (step B0.out hb)
  have N1 := hideIt (block_below N0.out hb)
  have q := cellOf N1.out 1 _ rfl
  have Z1 : c1.size ≤ 10000 := by
    have h := HL.out
    rw [txt_size C1.out]
    simp only [List.length_append, List.length_nil]
    omega
  clear hc hb N0
  go_wp2_with fail
  refine (addNumber_any _ _ _ (htab.below B1.out) (by omega) HI.out.key).mono ?_
  rintro e w2 ⟨⟨c2, rfl, hc⟩, hb⟩
  have C2 := hideIt hc
  have B2 := hideIt (step B1.out hb)
  have N2 := hideIt (block_below N1.out hb)
  have q := cellOf N2.out 2 _ rfl
  have Z2 : c2.size ≤ 10000 := by
    have h := HL.out
    rw [txt_size C2.out, C1.out]
    simp only [List.length_append, List.length_nil]
    omega
  clear hc hb N1
  go_wp2_with fail
  refine (addNumber_any _ _ _ (htab.below B2.out) (by omega) HI.out.val).mono ?_
  rintro e w3 ⟨⟨c3, rfl, hc⟩, hb⟩
  have C3 := hideIt hc
  have B3 := hideIt (step B2.out hb)
  have N3 := hideIt (block_below N2.out hb)
  have q := cellOf N3.out 3 _ rfl
  have Z3 : c3.size ≤ 10000 := by
    have h := HL.out
    rw [txt_size C3.out, C2.out, C1.out]
    simp only [List.length_append, List.length_nil]
    omega
  clear hc hb N2
  go_wp2_with fail
  refine (addNumber_any _ _ _ (htab.below B3.out) (by omega) HI.out.step).mono ?_
  rintro e w4 ⟨⟨c4, rfl, hc⟩, hb⟩
  have C4 := hideIt hc
  have B4 := hideIt (step B3.out hb)
  have N4 := hideIt (block_below N3.out hb)
  have q := cellOf N4.out 4 _ rfl
  have Z4 : c4.size ≤ 10000 := by
    have h := HL.out
    rw [txt_size C4.out, C3.out, C2.out, C1.out]
    simp only [List.length_append, List.length_nil]
    omega
  clear hc hb N3
  go_wp2_with fail
  refine (addNumber_any _ _ _ (htab.below B4.out) (by omega) HI.out.pg).mono ?_
  rintro e w5 ⟨⟨c5, rfl, hc⟩, hb⟩
  have C5 := hideIt hc
  have B5 := hideIt (step B4.out hb)
  have N5 := hideIt (block_below N4.out hb)
  have q := cellOf N5.out 5 _ rfl
  have Z5 : c5.size ≤ 10000 := by
    have h := HL.out
    rw [txt_size C5.out, C4.out, C3.out, C2.out, C1.out]
    simp only [List.length_append, List.length_nil]
    omega
  clear hc hb N4
  go_wp2_with fail
  refine (addList_any _ _ _ _ (htab.below B5.out) Z5 (HV.out.keys.below B5.out) (by have := HI.out.keysL; omega) HI.out.keys).mono ?_
  rintro e w6 ⟨⟨c6, rfl, hc⟩, hb⟩
  have C6 := hideIt hc
  have B6 := hideIt (step B5.out hb)
  have N6 := hideIt (block_below N5.out hb)
  have q := cellOf N6.out 6 _ rfl
  have Z6 : c6.size ≤ 10000 := by
    have h := HL.out
    rw [txt_size C6.out, C5.out, C4.out, C3.out, C2.out, C1.out]
    simp only [List.length_append, List.length_nil]
    omega
  clear hc hb N5
  go_wp2_with fail
  refine (addList_any _ _ _ _ (htab.below B6.out) Z6 (HV.out.vals.below B6.out) (by have := HI.out.valsL; omega) HI.out.vals).mono ?_
  rintro e w7 ⟨⟨c7, rfl, hc⟩, hb⟩
  have C7 := hideIt hc
  have B7 := hideIt (step B6.out hb)
  have N7 := hideIt (block_below N6.out hb)
  have q := cellOf N7.out 7 _ rfl
  have Z7 : c7.size ≤ 10000 := by
    have h := HL.out
    rw [txt_size C7.out, C6.out, C5.out, C4.out, C3.out, C2.out, C1.out]
    simp only [List.length_append, List.length_nil]
    omega
  clear hc hb N6
  go_wp2_with fail
  refine (addList_any _ _ _ _ (htab.below B7.out) Z7 (HV.out.bel.below B7.out) (by have := HI.out.belL; omega) HI.out.bel).mono ?_
  rintro e w8 ⟨⟨c8, rfl, hc⟩, hb⟩
  have C8 := hideIt hc
  have B8 := hideIt (step B7.out hb)
  have N8 := hideIt (block_below N7.out hb)
  have q := cellOf N8.out 8 _ rfl
  have Z8 : c8.size ≤ 10000 := by
    have h := HL.out
    rw [txt_size C8.out, C7.out, C6.out, C5.out, C4.out, C3.out, C2.out, C1.out]
    simp only [List.length_append, List.length_nil]
    omega
  clear hc hb N7
  go_wp2_with fail
  refine (addList_any _ _ _ _ (htab.below B8.out) Z8 (HV.out.pts.below B8.out) (by have := HI.out.ptsL; omega) HI.out.pts).mono ?_
  rintro e w9 ⟨⟨c9, rfl, hc⟩, hb⟩
  have C9 := hideIt hc
  have B9 := hideIt (step B8.out hb)
  have N9 := hideIt (block_below N8.out hb)
  have q := cellOf N9.out 10 _ rfl
  have Z9 : c9.size ≤ 10000 := by
    have h := HL.out
    rw [txt_size C9.out, C8.out, C7.out, C6.out, C5.out, C4.out, C3.out, C2.out, C1.out]
    simp only [List.length_append, List.length_nil]
    omega
  clear hc hb N8
  go_wp2_with fail
  refine (addNumber_any _ _ _ (htab.below B9.out) (by omega) HI.out.ver).mono ?_
  rintro e w10 ⟨⟨c10, rfl, hc⟩, hb⟩
  have C10 := hideIt hc
  have B10 := hideIt (step B9.out hb)
  have N10 := hideIt (block_below N9.out hb)
  have q := cellOf N10.out 11 _ rfl
  have Z10 : c10.size ≤ 10000 := by
    have h := HL.out
    rw [txt_size C10.out, C9.out, C8.out, C7.out, C6.out, C5.out, C4.out, C3.out, C2.out, C1.out]
    simp only [List.length_append, List.length_nil]
    omega
  clear hc hb N9
  go_wp2_with fail
  refine (addFlag_any _ _ _ (htab.below B10.out) (by omega)).mono ?_
  rintro e w11 ⟨⟨c11, rfl, hc⟩, hb⟩
  have C11 := hideIt hc
  have B11 := hideIt (step B10.out hb)
  have N11 := hideIt (block_below N10.out hb)
  have q := cellOf N11.out 12 _ rfl
  have Z11 : c11.size ≤ 10000 := by
    have h := HL.out
    rw [txt_size C11.out, C10.out, C9.out, C8.out, C7.out, C6.out, C5.out, C4.out, C3.out, C2.out, C1.out]
    simp only [List.length_append, List.length_nil]
    omega
  clear hc hb N10
  go_wp2_with fail
  refine (addNumber_any _ _ _ (htab.below B11.out) (by omega) HI.out.va).mono ?_
  rintro e w12 ⟨⟨c12, rfl, hc⟩, hb⟩
  have C12 := hideIt hc
  have B12 := hideIt (step B11.out hb)
  have N12 := hideIt (block_below N11.out hb)
  have q := cellOf N12.out 9 _ rfl
  have Z12 : c12.size ≤ 10000 := by
    have h := HL.out
    rw [txt_size C12.out, C11.out, C10.out, C9.out, C8.out, C7.out, C6.out, C5.out, C4.out, C3.out, C2.out, C1.out]
    simp only [List.length_append, List.length_nil]
    omega
  clear hc hb N11
  go_wp2_with fail
  refine (addNumber_any _ _ _ (htab.below B12.out) (by omega) (by have := HI.out.swL; unfold I64; omega)).mono ?_
  rintro e w13 ⟨⟨c13, rfl, hc⟩, hb⟩
  have C13 := hideIt hc
  have B13 := hideIt (step B12.out hb)
  have N13 := hideIt (block_below N12.out hb)
  have q := cellOf N13.out 9 _ rfl
  have Z13 : c13.size ≤ 10000 := by
    have h := HL.out
    rw [txt_size C13.out, C12.out, C11.out, C10.out, C9.out, C8.out, C7.out, C6.out, C5.out, C4.out, C3.out, C2.out, C1.out]
    simp only [List.length_append, List.length_nil]
    omega
  clear hc hb N12
  have zsw := HI.out.swL
  go_wp2
  go_ret
  refine ⟨⟨c13 ++ s.sw, rfl, ?_⟩, B13.out⟩
  rw [ba_append, C13.out, C12.out, C11.out, C10.out, C9.out, C8.out, C7.out, C6.out, C5.out, C4.out, C3.out, C2.out, C1.out]
  simp [frT, List.append_assoc]

/-- The first state of an operation. -/
def st0 (k key v : Int) : St := ⟨k, key, if k = 1 ∨ k = 3 then 0 else v, 0, 0, [], [], [], [], ⟨#[]⟩, 0, false, 0⟩
theorem st0_I (k key v : Int) (h : opR k key v = true) : StI (st0 k key v) := by
  simp only [opR, Bool.and_eq_true, Bool.or_eq_true, decide_eq_true_eq] at h
  unfold st0
  refine ⟨?_, ?_, ?_, ?_, ?_, ?_, ?_, by simp, by simp, by simp, by simp, by simp, by simp, by simp, by simp, ?_⟩
  all_goals (try (simp only [I64]))
  all_goals (try split)
  all_goals (first | omega | decide)

/-- What Begin answers: ErrOp and no text, or the first frame. -/
def BegR (k key v : Int) (e : Ending) : Prop :=
  (opR k key v = false ∧ e = .returned (.tuple #[.string ⟨#[]⟩, .int .i64 3])) ∨ (opR k key v = true ∧ ∃ c : ByteArray, e = .returned (.tuple #[.string c, .int .i64 0]) ∧ c.data.toList = frT (st0 k key v))

set_option maxRecDepth 100000 in
set_option maxHeartbeats 1600000 in
theorem begin_any (k key v : Int) (w : World) (htab : Tab w) :
    Calls Tryd.prog 24 #[.agg #[.int .i64 k, .int .i64 key, .int .i64 v]] w fun e w' => BegR k key v e ∧ Below w.heap.size w w' := by
  have N0 := hideIt (heap_alloc_new w (.cells #[.int .i64 k, .int .i64 key, .int .i64 v] 37))
  have B0 := hideIt ((Below.refl w.heap.size w).alloc (Nat.le_refl _) (.cells #[.int .i64 k, .int .i64 key, .int .i64 v] 37))
  cases ho : opR k key v
  · have HO := hideIt ho
    clear ho
    go_enter Tryd.func24, Tryd.ntmps24
    go_wp2_with fail
    refine (rightOp_any k key v _).mono ?_
    rintro e w1 ⟨rfl, hb⟩
    rw [HO.out]
    have B1 := hideIt (step B0.out hb)
    clear hb
    go_wp2
    exact bodyPost_ret (v := .tuple #[.string ⟨#[]⟩, .int .i64 3]) (by simp [results, Tryd.results24, go_sem]) rfl ⟨Or.inl ⟨HO.out, rfl⟩, B1.out⟩
  · have HO := hideIt ho
    have hk := opR_kind k key v ho
    clear ho
    go_enter Tryd.func24, Tryd.ntmps24
    go_wp2_with fail
    refine (rightOp_any k key v _).mono ?_
    rintro e w1 ⟨rfl, hb⟩
    rw [HO.out]
    have B1 := hideIt (step B0.out hb)
    have N1 := hideIt (block_below N0.out hb)
    have q0 := cellOf N1.out 0 _ rfl
    have q1 := cellOf N1.out 1 _ rfl
    have q2 := cellOf N1.out 2 _ rfl
    have f2 := Go.Joins.unfrozen_of_block N1.out 2
    clear hb N0
    rcases hk with rfl | rfl | rfl | rfl
    · have B2 := hideIt (Below.setCell B1.out (show w.heap.size ≤ (⟨w.heap.size, 2, none⟩ : Addr).block from Nat.le_refl _) (.int .i64 0))
      go_wp2_with fail
      refine (frameText_any (st0 1 key v) (.slice none 0 0) (.slice none 0 0) (.slice none 0 0) (.slice none 0 0) _ (htab.below B2.out) ⟨rd_nil _, rd_nil _, rd_nil _, rd_nil _⟩ (st0_I _ _ _ HO.out)).mono ?_
      rintro e w2 ⟨⟨c, rfl, hc⟩, hb⟩
      have HC := hideIt hc
      have B3 := hideIt (step B2.out hb)
      clear hc hb
      go_wp2
      exact bodyPost_ret (v := .tuple #[.string c, .int .i64 0]) (by simp [results, Tryd.results24, go_sem]) rfl ⟨Or.inr ⟨HO.out, c, rfl, HC.out⟩, B3.out⟩
    · have B2 := hideIt (Below.setCell B1.out (show w.heap.size ≤ (⟨w.heap.size, 2, none⟩ : Addr).block from Nat.le_refl _) (.int .i64 0))
      go_wp2_with fail
      refine (frameText_any (st0 3 key v) (.slice none 0 0) (.slice none 0 0) (.slice none 0 0) (.slice none 0 0) _ (htab.below B2.out) ⟨rd_nil _, rd_nil _, rd_nil _, rd_nil _⟩ (st0_I _ _ _ HO.out)).mono ?_
      rintro e w2 ⟨⟨c, rfl, hc⟩, hb⟩
      have HC := hideIt hc
      have B3 := hideIt (step B2.out hb)
      clear hc hb
      go_wp2
      exact bodyPost_ret (v := .tuple #[.string c, .int .i64 0]) (by simp [results, Tryd.results24, go_sem]) rfl ⟨Or.inr ⟨HO.out, c, rfl, HC.out⟩, B3.out⟩
    · have B2 := B1
      go_wp2_with fail
      refine (frameText_any (st0 2 key v) (.slice none 0 0) (.slice none 0 0) (.slice none 0 0) (.slice none 0 0) _ (htab.below B2.out) ⟨rd_nil _, rd_nil _, rd_nil _, rd_nil _⟩ (st0_I _ _ _ HO.out)).mono ?_
      rintro e w2 ⟨⟨c, rfl, hc⟩, hb⟩
      have HC := hideIt hc
      have B3 := hideIt (step B2.out hb)
      clear hc hb
      go_wp2
      exact bodyPost_ret (v := .tuple #[.string c, .int .i64 0]) (by simp [results, Tryd.results24, go_sem]) rfl ⟨Or.inr ⟨HO.out, c, rfl, HC.out⟩, B3.out⟩
    · have B2 := B1
      go_wp2_with fail
      refine (frameText_any (st0 4 key v) (.slice none 0 0) (.slice none 0 0) (.slice none 0 0) (.slice none 0 0) _ (htab.below B2.out) ⟨rd_nil _, rd_nil _, rd_nil _, rd_nil _⟩ (st0_I _ _ _ HO.out)).mono ?_
      rintro e w2 ⟨⟨c, rfl, hc⟩, hb⟩
      have HC := hideIt hc
      have B3 := hideIt (step B2.out hb)
      clear hc hb
      go_wp2
      exact bodyPost_ret (v := .tuple #[.string c, .int .i64 0]) (by simp [results, Tryd.results24, go_sem]) rfl ⟨Or.inr ⟨HO.out, c, rfl, HC.out⟩, B3.out⟩

end Go.Proofs.YtjpgldeeopmbgaaDoor.Sap
