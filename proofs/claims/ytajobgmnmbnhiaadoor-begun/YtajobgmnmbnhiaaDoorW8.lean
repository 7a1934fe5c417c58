/- WHAT IS PROVED HERE: saplingref.Pack answers a right node's text, and ErrNode for every other. Conditions: the slices are no longer than memory bears. -/
import Derived.Test.YtajobgmnmbnhiaaDoorW7
namespace Go.Proofs.YtajobgmnmbnhiaaDoor.Sap
open Go.RowKit

set_option maxRecDepth 100000 in
set_option maxHeartbeats 1600000 in
theorem refPack_any (n : Nd) (kv vv : Value) (w : World) (hk : Rd w kv n.ks) (hv : Rd w vv n.vs) (hkl : n.ks.length ≤ 17592186044416) :
    Calls Tryd.prog 13 #[.agg #[.int .i64 n.lv, .int .i64 n.lk, .int .i64 n.hi, kv, vv]] w fun e w' => ∃ b er, e = .returned (.tuple #[.string b, .int .i64 er]) ∧ Pk n b er ∧ Below w.heap.size w w' := by
  have HK : Hid (Rd w kv n.ks) := hk
  have HV : Hid (Rd w vv n.vs) := hv
  obtain ⟨ak, ck, rfl⟩ := hk.len
  obtain ⟨av, cv, rfl⟩ := hv.len
  clear hk hv
  by_cases hr : rightB n = true
  rotate_left
  · have HR : Hid (rightB n = false) := by unfold Hid; simpa using hr
    clear hr
    go_enter Tryd.func13, Tryd.ntmps13
    go_wp2_with fail
    refine (refRight_any n _ _ _ (by exact HK.out.alloc _) (by exact HV.out.alloc _) hkl).mono ?_
    rintro e w1 ⟨rfl, hb⟩
    rw [HR.out]
    have hb1 := step ((Below.refl _ _).alloc (Nat.le_refl _) _) hb
    clear hb
    go_wp2
    go_ret2
    exact ⟨_, _, rfl, by unfold Pk; rw [HR.out]; exact ⟨rfl, rfl⟩, hb1⟩
  · have HR : Hid (rightB n = true) := hr
    obtain ⟨c1, c2, c3, c4, c5, c6, c7, c8⟩ := right_bd n hr
    clear hr
    obtain ⟨m, hm1, hm2⟩ : ∃ m, n.ks.length = m ∧ n.vs.length = m := ⟨_, rfl, c4.symm⟩
    have Hm1 : Hid (n.ks.length = m) := hm1
    have Hm2 : Hid (n.vs.length = m) := hm2
    have C7 : Hid (∀ k ∈ n.ks, 0 ≤ k ∧ k ≤ 9999) := c7
    have C8 : Hid (∀ v ∈ n.vs, 0 ≤ v ∧ v.toNat < 10 ^ vw n.lv) := c8
    have hm6 : m ≤ 6 := by omega
    rw [hm1] at HK
    rw [hm2] at HV
    rw [hm1, hm2]
    have hT : ((n.lk == -1) = true ∧ Hid (headT n = dg 1 n.lv.toNat ++ [45, 45, 45, 45, 45, 45])) ∨ ((n.lk == -1) = false ∧ 0 ≤ n.lk ∧ n.lk ≤ 9999 ∧ 0 ≤ n.hi ∧ n.hi ≤ 9999 ∧ Hid (headT n = dg 1 n.lv.toNat ++ (dg 2 n.lk.toNat ++ dg 4 n.hi.toNat))) := by
      rcases c3 with ⟨a, b⟩ | ⟨a, b, c, d⟩
      · exact Or.inl ⟨by simp [b], by unfold Hid headT; rw [if_pos a]⟩
      · exact Or.inr ⟨by simp; omega, by omega, by omega, by omega, by omega, by unfold Hid headT; rw [if_neg (by omega)]⟩
    have hvw := vw_bd n.lv
    have hvw1 := hvw.1
    have hvw4 := hvw.2
    clear hm1 hm2 c3 c4 c5 c6 c7 c8 hkl hvw
    rcases hT with ⟨t1, t2⟩ | ⟨t1, t3, t4, t5, t6, t2⟩
    · go_enter Tryd.func13, Tryd.ntmps13
      go_wp2_with fail
      refine (refRight_any n _ _ _ (by exact HK.out.alloc _) (by exact HV.out.alloc _) (by rw [Hm1.out]; omega)).mono ?_
      rintro e w1 ⟨rfl, hb⟩
      rw [HR.out]
      have B1 := (Box.new w (.int .i64 n.lv) (.int .i64 n.lk) (.int .i64 n.hi) (.slice ak m ck) (.slice av m cv) 24).below hb
      obtain ⟨q0, q1, q2, q3, q4⟩ := B1
      have hb1 := step ((Below.refl _ _).alloc (Nat.le_refl _) _) hb
      clear hb
      go_wp2_with fail
      refine (decimal_int n.lv _ (by omega) (by omega)).mono ?_
      rintro e w2 ⟨b0, rfl, hd0, hs0, hb⟩
      have B2 := Box.below ⟨q0, q1, q2, q3, q4⟩ hb
      clear q0 q1 q2 q3 q4
      obtain ⟨q0, q1, q2, q3, q4⟩ := B2
      have hb2 := step hb1 hb
      clear hb hb1
      have HD0 := hideIt hd0
      clear hd0
      go_wp2_with fail
      go_loopw [6, 9] (fun t i wr => ∃ (k : Nat) (b : ByteArray), k ≤ m ∧ i = .int .i64 k ∧ t = .string b ∧ b.size ≤ 7 + 8 * k ∧ Hid (b.data.toList = headT n ++ ents n.lv (n.ks.take k) (n.vs.take k)) ∧ Below w.heap.size w wr ∧ Box wr w.heap.size (.int .i64 n.lv) (.int .i64 n.lk) (.int .i64 n.hi) (.slice ak m ck) (.slice av m cv)) (fun _ i _ => m - (intOf i).toNat)
      case atStart => exact ⟨0, _, Nat.zero_le _, rfl, rfl, by rw [ByteArray.size_append, ByteArray.size_extract]; show min 4 b0.size - 3 + 6 ≤ _; omega, by unfold Hid; rw [ba_append, ba_extract, seg_rest _ _ _ (by rw [HD0.out, len_dg]; decide), HD0.out, dg1_of4, t2.out]; simp [ents], hb2, q0, q1, q2, q3, q4⟩
      case round =>
        clear q0 q1 q2 q3 q4 hb2
        obtain ⟨k, b, hk, rfl, rfl, hbs, hbt, hbw, q0, q1, q2, q3, q4⟩ := hrel
        by_cases hlt : k < m
        · obtain ⟨bk, ok, rfl, hk1, hck⟩ := HK.out.elem k hlt
          obtain ⟨bv, ov, rfl, hv1, hcv⟩ := HV.out.elem k hlt
          have HCV := hideIt hcv
          have xk := C7.out _ (mem_at hk1)
          have xv := C8.out _ (mem_at hv1)
          have hsn : Hid (ents n.lv (n.ks.take (k + 1)) (n.vs.take (k + 1)) = ents n.lv (n.ks.take k) (n.vs.take k) ++ (dg 4 (n.ks[k]?.getD 0).toNat ++ dg (vw n.lv) (n.vs[k]?.getD 0).toNat)) := ents_snoc n.lv n.ks n.vs k hk1 hv1
          have ck1 := hck _ hbw
          have cv1 := hcv _ hbw
          clear hck hcv hk1 hv1
          obtain ⟨x, hx⟩ : ∃ x, n.ks[k]?.getD 0 = x := ⟨_, rfl⟩
          obtain ⟨y, hy⟩ : ∃ y, n.vs[k]?.getD 0 = y := ⟨_, rfl⟩
          rw [hx] at ck1 xk hsn
          rw [hy] at cv1 xv hsn HCV
          clear hx hy
          obtain ⟨x0, x1⟩ := xk
          have y0 := xv.1
          have y1 : y ≤ 9999 := by have := xv.2; have := pow_le4 (vw n.lv) (by omega); omega
          clear xv
          have hkk : (0 : Int) ≤ (k : Int) := by omega
          have hkl : (k : Int) < (m : Int) := by omega
          go_wp2_with fail
          refine (decimal_int x _ (by omega) (by omega)).mono ?_
          rintro e w4 ⟨b1, rfl, hd1, hs1, hb⟩
          have B2 := Box.below ⟨q0, q1, q2, q3, q4⟩ hb
          clear q0 q1 q2 q3 q4 ck1 cv1
          obtain ⟨q0, q1, q2, q3, q4⟩ := B2
          have hb4 := step hbw hb
          clear hb
          have cv1 := HCV.out _ hb4
          have HD1 := hideIt hd1
          have HS1 := hideIt hs1
          have hz1 : b1.size ≤ 4 := by omega
          clear hs1 hd1
          go_wp2_with fail
          refine (decimal_int y _ (by omega) (by omega)).mono ?_
          rintro e w5 ⟨b2, rfl, hd2, hs2, hb⟩
          have B2 := Box.below ⟨q0, q1, q2, q3, q4⟩ hb
          clear q0 q1 q2 q3 q4 cv1
          obtain ⟨q0, q1, q2, q3, q4⟩ := B2
          have hb5 := step hb4 hb
          clear hb
          have HD2 := hideIt hd2
          have HS2 := hideIt hs2
          clear hd2
          by_cases hl : n.lv = 0
          · have HL : Hid (vw n.lv = 4) := by unfold Hid vw; rw [if_pos hl]
            have hl0 : n.lv ≤ 0 := by omega
            clear hl
            go_wp2
            go_roundw
            case rel =>
              refine ⟨k + 1, _, by omega, by go_num, rfl, ?_, ?_, hb5, q0, q1, q2, q3, q4⟩
              · rw [ByteArray.size_append, ByteArray.size_append, HS2.out]; omega
              · unfold Hid; rw [ba_append, ba_append, hbt.out, HD1.out, HD2.out, hsn.out, HL.out]; simp only [List.append_assoc]
            case measure => simp [intOf]; omega
          · have HL : Hid (vw n.lv = 2) := by unfold Hid vw; rw [if_neg hl]
            have hl0 : 1 ≤ n.lv := by omega
            clear hl
            go_wp2
            go_roundw
            case rel =>
              refine ⟨k + 1, _, by omega, by go_num, rfl, ?_, ?_, hb5, q0, q1, q2, q3, q4⟩
              · rw [ByteArray.size_append, ByteArray.size_append, ByteArray.size_extract, HS2.out]; omega
              · unfold Hid; rw [ba_append, ba_append, ba_extract, seg_rest _ _ _ (by rw [HD2.out, len_dg]; decide), hbt.out, HD1.out, HD2.out, hsn.out, HL.out, dg2_of4]; simp only [List.append_assoc]
            case measure => simp [intOf]; omega
        · have hfin : Hid (b.data.toList = packT n) := by
            unfold Hid packT; rw [hbt.out, List.take_of_length_le (by rw [Hm1.out]; omega), List.take_of_length_le (by rw [Hm2.out]; omega)]
          clear hbt
          go_wp2
          go_ret2
          exact ⟨_, _, rfl, by unfold Pk; rw [HR.out]; exact ⟨hfin.out, rfl⟩, hbw⟩
    · go_enter Tryd.func13, Tryd.ntmps13
      go_wp2_with fail
      refine (refRight_any n _ _ _ (by exact HK.out.alloc _) (by exact HV.out.alloc _) (by rw [Hm1.out]; omega)).mono ?_
      rintro e w1 ⟨rfl, hb⟩
      rw [HR.out]
      have B1 := (Box.new w (.int .i64 n.lv) (.int .i64 n.lk) (.int .i64 n.hi) (.slice ak m ck) (.slice av m cv) 24).below hb
      obtain ⟨q0, q1, q2, q3, q4⟩ := B1
      have hb1 := step ((Below.refl _ _).alloc (Nat.le_refl _) _) hb
      clear hb
      go_wp2_with fail
      refine (decimal_int n.lv _ (by omega) (by omega)).mono ?_
      rintro e w2 ⟨b0, rfl, hd0, hs0, hb⟩
      have B2 := Box.below ⟨q0, q1, q2, q3, q4⟩ hb
      clear q0 q1 q2 q3 q4
      obtain ⟨q0, q1, q2, q3, q4⟩ := B2
      have hb2 := step hb1 hb
      clear hb hb1
      have HD0 := hideIt hd0
      clear hd0
      go_wp2_with fail
      refine (decimal_int n.lk _ (by omega) (by omega)).mono ?_
      rintro e w3 ⟨b3, rfl, hd3, hs3, hb⟩
      have B2 := Box.below ⟨q0, q1, q2, q3, q4⟩ hb
      clear q0 q1 q2 q3 q4
      obtain ⟨q0, q1, q2, q3, q4⟩ := B2
      have hb3 := step hb2 hb
      clear hb hb2
      have HD3 := hideIt hd3
      clear hd3
      go_wp2_with fail
      refine (decimal_int n.hi _ (by omega) (by omega)).mono ?_
      rintro e w4 ⟨b4, rfl, hd4, hs4, hb⟩
      have B2 := Box.below ⟨q0, q1, q2, q3, q4⟩ hb
      clear q0 q1 q2 q3 q4
      obtain ⟨q0, q1, q2, q3, q4⟩ := B2
      have hb4 := step hb3 hb
      clear hb hb3
      have HD4 := hideIt hd4
      clear hd4
      go_wp2_with fail
      go_loopw [6, 9] (fun t i wr => ∃ (k : Nat) (b : ByteArray), k ≤ m ∧ i = .int .i64 k ∧ t = .string b ∧ b.size ≤ 7 + 8 * k ∧ Hid (b.data.toList = headT n ++ ents n.lv (n.ks.take k) (n.vs.take k)) ∧ Below w.heap.size w wr ∧ Box wr w.heap.size (.int .i64 n.lv) (.int .i64 n.lk) (.int .i64 n.hi) (.slice ak m ck) (.slice av m cv)) (fun _ i _ => m - (intOf i).toNat)
      case atStart => exact ⟨0, _, Nat.zero_le _, rfl, rfl, by rw [ByteArray.size_append, ByteArray.size_append, ByteArray.size_extract, ByteArray.size_extract]; omega, by unfold Hid; rw [ba_append, ba_append, ba_extract, ba_extract, seg_rest _ _ _ (by rw [HD0.out, len_dg]; decide), seg_rest _ _ _ (by rw [HD3.out, len_dg]; decide), HD0.out, HD3.out, HD4.out, dg1_of4, dg2_of4, t2.out]; simp [ents], hb4, q0, q1, q2, q3, q4⟩
      case round =>
        clear q0 q1 q2 q3 q4 hb4
        obtain ⟨k, b, hk, rfl, rfl, hbs, hbt, hbw, q0, q1, q2, q3, q4⟩ := hrel
        by_cases hlt : k < m
        · obtain ⟨bk, ok, rfl, hk1, hck⟩ := HK.out.elem k hlt
          obtain ⟨bv, ov, rfl, hv1, hcv⟩ := HV.out.elem k hlt
          have HCV := hideIt hcv
          have xk := C7.out _ (mem_at hk1)
          have xv := C8.out _ (mem_at hv1)
          have hsn : Hid (ents n.lv (n.ks.take (k + 1)) (n.vs.take (k + 1)) = ents n.lv (n.ks.take k) (n.vs.take k) ++ (dg 4 (n.ks[k]?.getD 0).toNat ++ dg (vw n.lv) (n.vs[k]?.getD 0).toNat)) := ents_snoc n.lv n.ks n.vs k hk1 hv1
          have ck1 := hck _ hbw
          have cv1 := hcv _ hbw
          clear hck hcv hk1 hv1
          obtain ⟨x, hx⟩ : ∃ x, n.ks[k]?.getD 0 = x := ⟨_, rfl⟩
          obtain ⟨y, hy⟩ : ∃ y, n.vs[k]?.getD 0 = y := ⟨_, rfl⟩
          rw [hx] at ck1 xk hsn
          rw [hy] at cv1 xv hsn HCV
          clear hx hy
          obtain ⟨x0, x1⟩ := xk
          have y0 := xv.1
          have y1 : y ≤ 9999 := by have := xv.2; have := pow_le4 (vw n.lv) (by omega); omega
          clear xv
          have hkk : (0 : Int) ≤ (k : Int) := by omega
          have hkl : (k : Int) < (m : Int) := by omega
          go_wp2_with fail
          refine (decimal_int x _ (by omega) (by omega)).mono ?_
          rintro e w4 ⟨b1, rfl, hd1, hs1, hb⟩
          have B2 := Box.below ⟨q0, q1, q2, q3, q4⟩ hb
          clear q0 q1 q2 q3 q4 ck1 cv1
          obtain ⟨q0, q1, q2, q3, q4⟩ := B2
          have hb4 := step hbw hb
          clear hb
          have cv1 := HCV.out _ hb4
          have HD1 := hideIt hd1
          have HS1 := hideIt hs1
          have hz1 : b1.size ≤ 4 := by omega
          clear hs1 hd1
          go_wp2_with fail
          refine (decimal_int y _ (by omega) (by omega)).mono ?_
          rintro e w5 ⟨b2, rfl, hd2, hs2, hb⟩
          have B2 := Box.below ⟨q0, q1, q2, q3, q4⟩ hb
          clear q0 q1 q2 q3 q4 cv1
          obtain ⟨q0, q1, q2, q3, q4⟩ := B2
          have hb5 := step hb4 hb
          clear hb
          have HD2 := hideIt hd2
          have HS2 := hideIt hs2
          clear hd2
          by_cases hl : n.lv = 0
          · have HL : Hid (vw n.lv = 4) := by unfold Hid vw; rw [if_pos hl]
            have hl0 : n.lv ≤ 0 := by omega
            clear hl
            go_wp2
            go_roundw
            case rel =>
              refine ⟨k + 1, _, by omega, by go_num, rfl, ?_, ?_, hb5, q0, q1, q2, q3, q4⟩
              · rw [ByteArray.size_append, ByteArray.size_append, HS2.out]; omega
              · unfold Hid; rw [ba_append, ba_append, hbt.out, HD1.out, HD2.out, hsn.out, HL.out]; simp only [List.append_assoc]
            case measure => simp [intOf]; omega
          · have HL : Hid (vw n.lv = 2) := by unfold Hid vw; rw [if_neg hl]
            have hl0 : 1 ≤ n.lv := by omega
            clear hl
            go_wp2
            go_roundw
            case rel =>
              refine ⟨k + 1, _, by omega, by go_num, rfl, ?_, ?_, hb5, q0, q1, q2, q3, q4⟩
              · rw [ByteArray.size_append, ByteArray.size_append, ByteArray.size_extract, HS2.out]; omega
              · unfold Hid; rw [ba_append, ba_append, ba_extract, seg_rest _ _ _ (by rw [HD2.out, len_dg]; decide), hbt.out, HD1.out, HD2.out, hsn.out, HL.out, dg2_of4]; simp only [List.append_assoc]
            case measure => simp [intOf]; omega
        · have hfin : Hid (b.data.toList = packT n) := by
            unfold Hid packT; rw [hbt.out, List.take_of_length_le (by rw [Hm1.out]; omega), List.take_of_length_le (by rw [Hm2.out]; omega)]
          clear hbt
          go_wp2
          go_ret2
          exact ⟨_, _, rfl, by unfold Pk; rw [HR.out]; exact ⟨hfin.out, rfl⟩, hbw⟩
end Go.Proofs.YtajobgmnmbnhiaaDoor.Sap
