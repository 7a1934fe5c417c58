/- WHAT IS PROVED HERE: page.Pack answers a right node's text, and ErrNode for every other. Conditions: the table of powers of ten is laid; the slices are no longer than memory bears. -/
import Derived.Test.YtajobgmnmbnhiaaDoorW4
namespace Go.Proofs.YtajobgmnmbnhiaaDoor.Sap
open Go.RowKit

theorem hideIt {p : Prop} (h : p) : Hid p := h

/-- What Pack answers: the text and 0 for a right node, nothing and 1 for every other. -/
def Pk (n : Nd) (b : ByteArray) (er : Int) : Prop := if rightB n then b.data.toList = packT n ∧ er = 0 else b.data.toList = [] ∧ er = 1

theorem ents_snoc (lv : Int) (ks vs : List Int) (k : Nat) (hk : k < ks.length) (hv : k < vs.length) :
    ents lv (ks.take (k + 1)) (vs.take (k + 1)) = ents lv (ks.take k) (vs.take k) ++ (dg 4 (ks[k]?.getD 0).toNat ++ dg (vw lv) (vs[k]?.getD 0).toNat) := by
  induction k generalizing ks vs with
  | zero =>
    cases ks with
    | nil => simp at hk
    | cons x ks =>
      cases vs with
      | nil => simp at hv
      | cons y vs => simp [ents]
  | succ k ih =>
    cases ks with
    | nil => simp at hk
    | cons x ks =>
      cases vs with
      | nil => simp at hv
      | cons y vs =>
        have := ih ks vs (by simpa using hk) (by simpa using hv)
        simp only [List.take_succ_cons, ents, this, List.append_assoc]
        simp

theorem vw_bd (lv : Int) : 1 ≤ (vw lv : Int) ∧ (vw lv : Int) ≤ 4 := by unfold vw; split <;> decide
theorem mem_at {xs : List Int} {k : Nat} (h : k < xs.length) : xs[k]?.getD 0 ∈ xs := by simp [h]

/-- A slice's element, in a world that has grown. -/
theorem Rd.elem {w : World} {ao : Option Addr} {m cap : Nat} {xs : List Int} (h : Rd w (.slice ao m cap) xs) (k : Nat) (hk : k < m) :
    ∃ b off, ao = some ⟨b, off, none⟩ ∧ k < xs.length ∧ ∀ w', Below w.heap.size w w' → w'.cell? ⟨b, off + k, none⟩ = some (.int .i64 (xs[k]?.getD 0)) := by
  obtain ⟨ao', cap', hv, hr⟩ := h
  simp only [Value.slice.injEq] at hv
  obtain ⟨rfl, rfl, rfl⟩ := hv
  obtain ⟨b, off, rfl, hc⟩ := hr (by omega)
  exact ⟨b, off, rfl, hk, fun w' hb => cell_below hb _ _ (hc k hk)⟩

set_option maxRecDepth 100000 in
set_option maxHeartbeats 800000 in
theorem pack_any (n : Nd) (kv vv : Value) (w : World) (htab : Tab w) (hk : Rd w kv n.ks) (hv : Rd w vv n.vs) (hkl : n.ks.length ≤ 17592186044416) (hvl : n.vs.length ≤ 17592186044416) :
    Calls Tryd.prog 12 #[.agg #[.int .i64 n.lv, .int .i64 n.lk, .int .i64 n.hi, kv, vv]] w fun e w' => ∃ b er, e = .returned (.tuple #[.string b, .int .i64 er]) ∧ Pk n b er ∧ b.size ≤ 55 ∧ Below w.heap.size w w' := by
  have HK : Hid (Rd w kv n.ks) := hk
  have HV : Hid (Rd w vv n.vs) := hv
  obtain ⟨ak, ck, rfl⟩ := hk.len
  obtain ⟨av, cv, rfl⟩ := hv.len
  have HT : Hid (Tab w) := htab
  clear hk hv htab
  by_cases hr : rightB n = true
  rotate_left
  · have HR : Hid (rightB n = false) := by unfold Hid; simpa using hr
    clear hr
    go_enter Tryd.func12, Tryd.ntmps12
    go_wp2_with fail
    refine (right_any n _ _ _ (by exact HK.out.alloc _) (by exact HV.out.alloc _) hkl hvl).mono ?_
    rintro e w1 ⟨rfl, hb⟩
    rw [HR.out]
    have hb1 := step ((Below.refl _ _).alloc (Nat.le_refl _) _) hb
    clear hb
    go_wp2
    go_ret2
    exact ⟨_, _, rfl, by unfold Pk; rw [HR.out]; exact ⟨rfl, rfl⟩, by decide, hb1⟩
  · have HR : Hid (rightB n = true) := hr
    obtain ⟨c1, c2, c3, c4, c5, c6, c7, c8⟩ := right_bd n hr
    clear hr
    obtain ⟨m, hm1, hm2⟩ : ∃ m, n.ks.length = m ∧ n.vs.length = m := ⟨_, rfl, c4.symm⟩
    have Hm1 : Hid (n.ks.length = m) := hm1
    have Hm2 : Hid (n.vs.length = m) := hm2
    have C3 := Hid.out (p := (n.hi = 10000 ∧ n.lk = -1) ∨ (1 ≤ n.hi ∧ n.hi ≤ 9999 ∧ 1 ≤ n.lk ∧ n.lk ≤ 63)) c3
    have C7 : Hid (∀ k ∈ n.ks, 0 ≤ k ∧ k ≤ 9999) := c7
    have C8 : Hid (∀ v ∈ n.vs, 0 ≤ v ∧ v.toNat < 10 ^ vw n.lv) := c8
    have hm6 : m ≤ 6 := by omega
    rw [hm1] at HK
    rw [hm2] at HV
    rw [hm1, hm2]
    have hvw := vw_bd n.lv
    have hvw1 := hvw.1
    have hvw4 := hvw.2
    clear hm1 hm2 c3 c4 c5 c6 c7 c8 C3 hkl hvl hvw
    go_enter Tryd.func12, Tryd.ntmps12
    go_wp2_with fail
    refine (right_any n _ _ _ (by exact HK.out.alloc _) (by exact HV.out.alloc _) (by rw [Hm1.out]; omega) (by rw [Hm2.out]; omega)).mono ?_
    rintro e w1 ⟨rfl, hb⟩
    rw [HR.out]
    have B1 := (Box.new w (.int .i64 n.lv) (.int .i64 n.lk) (.int .i64 n.hi) (.slice ak m ck) (.slice av m cv) 24).below hb
    obtain ⟨q0, q1, q2, q3, q4⟩ := B1
    have hb1 := step ((Below.refl _ _).alloc (Nat.le_refl _) _) hb
    have hz1 := hb.size
    clear hb
    go_wp2_with fail
    refine (headText_any n _ _ _ (HT.out.below hb1) HR.out).mono ?_
    rintro e w2 ⟨b0, rfl, hd0, hs0, hb⟩
    have B2 := Box.below ⟨q0, q1, q2, q3, q4⟩ hb
    clear q0 q1 q2 q3 q4
    obtain ⟨q0, q1, q2, q3, q4⟩ := B2
    have hb2 := step hb1 hb
    clear hb hb1 hz1
    have HD0 : Hid (b0.data.toList = headT n) := hd0
    have HS0 : Hid (b0.size = 7) := hs0
    clear hd0 hs0
    go_wp2_with fail
    refine (valWidth_any n.lv _).mono ?_
    rintro e w3 ⟨rfl, rfl⟩
    go_wp2_with fail
    go_loopw [4, 6] (fun t i wr => ∃ (k : Nat) (b : ByteArray), k ≤ m ∧ i = .int .i64 k ∧ t = .string b ∧ b.size ≤ 7 + 8 * k ∧ Hid (b.data.toList = headT n ++ ents n.lv (n.ks.take k) (n.vs.take k)) ∧ Below w.heap.size w wr ∧ Box wr w.heap.size (.int .i64 n.lv) (.int .i64 n.lk) (.int .i64 n.hi) (.slice ak m ck) (.slice av m cv)) (fun _ i _ => m - (intOf i).toNat)
    case atStart => exact ⟨0, b0, Nat.zero_le _, rfl, rfl, by rw [HS0.out]; decide, by unfold Hid; rw [HD0.out]; simp [ents], hb2, q0, q1, q2, q3, q4⟩
    case round =>
      clear q0 q1 q2 q3 q4 hb2 HD0 HS0
      obtain ⟨k, b, hk, rfl, rfl, hbs, hbt, hbw, q0, q1, q2, q3, q4⟩ := hrel
      by_cases hlt : k < m
      · obtain ⟨bk, ok, rfl, hk1, hck⟩ := HK.out.elem k hlt
        obtain ⟨bv, ov, rfl, hv1, hcv⟩ := HV.out.elem k hlt
        have HCK := hideIt hck
        have HCV := hideIt hcv
        have xk := C7.out _ (mem_at hk1)
        have xv := C8.out _ (mem_at hv1)
        have hsn : Hid (ents n.lv (n.ks.take (k + 1)) (n.vs.take (k + 1)) = ents n.lv (n.ks.take k) (n.vs.take k) ++ (dg 4 (n.ks[k]?.getD 0).toNat ++ dg (vw n.lv) (n.vs[k]?.getD 0).toNat)) := ents_snoc n.lv n.ks n.vs k hk1 hv1
        have ck1 := hck _ hbw
        have cv1 := hcv _ hbw
        clear hck hcv hk1 hv1
        obtain ⟨x, hx⟩ : ∃ x, n.ks[k]?.getD 0 = x := ⟨_, rfl⟩
        obtain ⟨y, hy⟩ : ∃ y, n.vs[k]?.getD 0 = y := ⟨_, rfl⟩
        rw [hx] at ck1 xk hsn HCK
        rw [hy] at cv1 xv hsn HCV
        clear hx hy
        obtain ⟨x0, x1⟩ := xk
        have y0 := xv.1
        have Y1 : Hid (y.toNat < 10 ^ vw n.lv) := xv.2
        clear xv
        have hkk : (0 : Int) ≤ (k : Int) := by omega
        have hkl : (k : Int) < (m : Int) := by omega
        go_wp2_with fail
        refine (digits_any x 4 _ (HT.out.below hbw) (by omega) (by omega) (by omega) (by rw [pow4]; omega)).mono ?_
        rintro e w4 ⟨b1, rfl, hd1, hs1, hb⟩
        have B2 := Box.below ⟨q0, q1, q2, q3, q4⟩ hb
        clear q0 q1 q2 q3 q4 ck1 cv1
        obtain ⟨q0, q1, q2, q3, q4⟩ := B2
        have hb4 := step hbw hb
        clear hb
        have cv1 := HCV.out _ hb4
        have hz1 : b1.size ≤ 4 := by rw [hs1]; decide
        have HD1 : Hid (b1.data.toList = dg 4 x.toNat) := hd1
        clear hs1 hd1
        go_wp2_with fail
        refine (digits_any y (vw n.lv) _ (HT.out.below hb4) (by omega) (by omega) (by omega) (by simpa using Y1.out)).mono ?_
        rintro e w5 ⟨b2, rfl, hd2, hs2, hb⟩
        have B2 := Box.below ⟨q0, q1, q2, q3, q4⟩ hb
        clear q0 q1 q2 q3 q4 cv1
        have hb5 := step hb4 hb
        clear hb
        have hz2 : b2.size ≤ 4 := by rw [hs2]; omega
        have HD2 : Hid (b2.data.toList = dg (vw n.lv) y.toNat) := by simpa [Hid] using hd2
        clear hs2 hd2
        go_wp2
        go_roundw
        case rel =>
          refine ⟨k + 1, _, by omega, by go_num, rfl, ?_, ?_, hb5, B2⟩
          · rw [ByteArray.size_append, ByteArray.size_append]; omega
          · unfold Hid; rw [ba_append, ba_append, hbt.out, HD1.out, HD2.out, hsn.out]; simp only [List.append_assoc]
        case measure => simp [intOf]; omega
      · have hk0 : k = m := by omega
        have hfin : Hid (b.data.toList = packT n) := by
          unfold Hid packT; rw [hbt.out, List.take_of_length_le (by rw [Hm1.out]; omega), List.take_of_length_le (by rw [Hm2.out]; omega)]
        clear hbt hk0
        go_wp2
        go_ret2
        exact ⟨_, _, rfl, by unfold Pk; rw [HR.out]; exact ⟨hfin.out, rfl⟩, by omega, hbw⟩
end Go.Proofs.YtajobgmnmbnhiaaDoor.Sap
