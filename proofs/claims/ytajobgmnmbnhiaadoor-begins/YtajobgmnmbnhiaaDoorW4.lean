/- WHAT IS PROVED HERE: page.digits, page.headText and page.Pack answer a right node's text, and ErrNode for every other. Conditions: the table of powers of ten is laid; the slices are no longer than memory bears. -/
import Derived.Test.YtajobgmnmbnhiaaDoorW3
namespace Go.Proofs.YtajobgmnmbnhiaaDoor.Sap
open Go.RowKit

/-- The library's table of powers of ten lies in the world. -/
def Tab (w : World) : Prop := Lib.TabIs Tryd.prog w "internal/strconv.uint64pow10" .u64 Lib.pow10Tab
theorem gPow : Tryd.prog.globalNamed "internal/strconv.uint64pow10" = some 0 := by kernel_rfl
theorem Tab.below {w w' : World} (h : Tab w) (hb : Below w.heap.size w w') : Tab w' := Go.Joins.tab_stays gPow h hb (Nat.le_refl _)
theorem Tab.alloc {w : World} (h : Tab w) (o : Obj) : Tab (w.alloc o) := h.below ((Below.refl _ _).alloc (Nat.le_refl _) o)

theorem decDigits_small (n : Nat) (h : n < 10) : Lib.decDigits n = [UInt8.ofNat (48 + n)] := by rw [Lib.decDigits, dif_pos h]
theorem decDigits_big (n : Nat) (h : ¬ n < 10) : Lib.decDigits n = Lib.decDigits (n / 10) ++ [UInt8.ofNat (48 + n % 10)] := by rw [Lib.decDigits, dif_neg h]
theorem dg_zero (w : Nat) : dg w 0 = List.replicate w 48 := by
  induction w with
  | zero => rfl
  | succ w ih => simp only [dg, Nat.zero_div, Nat.zero_mod, ih]; rw [List.replicate_succ']; rfl
theorem pad_dg (w n : Nat) (hw : 1 ≤ w) (h : n < 10 ^ w) : (Lib.decDigits n).length ≤ w ∧ List.replicate (w - (Lib.decDigits n).length) 48 ++ Lib.decDigits n = dg w n := by
  induction w generalizing n with
  | zero => omega
  | succ w ih =>
    by_cases hn : n < 10
    · rw [decDigits_small n hn]
      refine ⟨by simp, ?_⟩
      simp only [dg, Nat.div_eq_of_lt hn, Nat.mod_eq_of_lt hn, dg_zero]
      simp
    · have hw1 : 1 ≤ w := by
        rcases Nat.eq_zero_or_pos w with h0 | h0
        · subst h0; simp at h; omega
        · exact h0
      have h2 : n / 10 < 10 ^ w := by rw [Nat.div_lt_iff_lt_mul (by decide)]; rw [Nat.pow_succ] at h; omega
      obtain ⟨i1, i2⟩ := ih (n / 10) hw1 h2
      rw [decDigits_big n hn]
      refine ⟨by simp; omega, ?_⟩
      simp only [dg, ← i2, List.length_append, List.length_cons, List.length_nil, List.append_assoc]
      congr 2
      omega

def lenOf : Value → Nat | .string b => b.size | _ => 0

theorem itoa_nat (n : Int) (h0 : 0 ≤ n) : Lib.itoa n = Lib.decDigits n.toNat := by unfold Lib.itoa; rw [if_neg (by omega)]
theorem pow_le4 (k : Nat) (h : k ≤ 4) : 10 ^ k ≤ 10000 := by
  have h2 : 10 ^ k ≤ 10 ^ 4 := Nat.pow_le_pow_right (by decide) h
  omega

theorem pad_step {b : ByteArray} {d : List UInt8} (h : ∃ j, b.data.toList = List.replicate j 48 ++ d ∧ j + d.length = b.size) :
    ∃ j, (ByteArray.mk #[48] ++ b).data.toList = List.replicate j 48 ++ d ∧ j + d.length = (ByteArray.mk #[48] ++ b).size := by
  obtain ⟨j, h1, h2⟩ := h
  refine ⟨j + 1, ?_, ?_⟩
  · rw [ba_append, h1, List.replicate_succ]; rfl
  · rw [ByteArray.size_append, ← h2]; show j + 1 + d.length = 1 + (j + d.length); omega

set_option maxRecDepth 100000 in
set_option maxHeartbeats 800000 in
theorem digits_any (n wi : Int) (w : World) (htab : Tab w) (h0 : 0 ≤ n) (hw1 : 1 ≤ wi) (hw4 : wi ≤ 4) (hn : n.toNat < 10 ^ wi.toNat) :
    Calls Tryd.prog 43 #[.int .i64 n, .int .i64 wi] w fun e w' => ∃ b, e = .returned (.string b) ∧ b.data.toList = dg wi.toNat n.toNat ∧ b.size = wi.toNat ∧ Below w.heap.size w w' := by
  have hb4 := pow_le4 wi.toNat (by omega)
  have hp := pad_dg wi.toNat n.toNat (by omega) hn
  have HP : Hid ((Lib.decDigits n.toNat).length ≤ wi.toNat ∧ List.replicate (wi.toNat - (Lib.decDigits n.toNat).length) 48 ++ Lib.decDigits n.toNat = dg wi.toNat n.toNat) := hp
  have HI : Hid (Lib.itoa n = Lib.decDigits n.toNat) := itoa_nat n h0
  have hn4 : n < 10000 := by omega
  clear hp hn hb4
  go_enter Tryd.func43, Tryd.ntmps43
  go_wp2_with (go_at_call 67; refine (Tryd.strconv_Itoa n (by omega) (by omega) _ htab).mono ?_; rintro e w1 ⟨rfl, kk, os, hw⟩; have hb := hw ▸ Lib.below_grow w.heap.size w (Nat.le_refl _) kk os; clear hw; obtain ⟨b0, hb0⟩ : ∃ b0, b0 = (ByteArray.mk (Lib.itoa n).toArray) := ⟨_, rfl⟩; rw [← hb0]; have HB0 : Hid (b0.data.toList = Lib.decDigits n.toNat) := (by unfold Hid; rw [hb0, HI.out]); clear hb0)
  have hsz0 : b0.size = (Lib.decDigits n.toNat).length := by rw [← HB0.out, ba_size]
  have hle0 : (b0.size : Int) ≤ wi := by have := HP.out.1; omega
  have HS0 : Hid (b0.size = (Lib.decDigits n.toNat).length) := hsz0
  clear hsz0
  go_loop [5] (fun t => ∃ b : ByteArray, t = .string b ∧ (b.size : Int) ≤ wi ∧ Hid (∃ j, b.data.toList = List.replicate j 48 ++ Lib.decDigits n.toNat ∧ j + (Lib.decDigits n.toNat).length = b.size)) (fun t => wi.toNat - lenOf t)
  case atStart => exact ⟨b0, rfl, hle0, ⟨0, by rw [HB0.out]; rfl, by rw [HS0.out]; omega⟩⟩
  case round =>
    obtain ⟨b, rfl, hle, hinv⟩ := hrel
    by_cases hlt : (b.size : Int) < wi
    · go_wp2
      go_round
      case rel => exact ⟨_, rfl, by rw [ByteArray.size_append]; show ((1 + b.size : Nat) : Int) ≤ wi; omega, pad_step hinv.out⟩
      case measure => simp only [lenOf]; rw [ByteArray.size_append]; show wi.toNat - (1 + b.size) < _; omega
    · go_wp2
      go_ret
      refine ⟨b, rfl, ?_, by omega, hb⟩
      obtain ⟨j, h1, h2⟩ := hinv.out
      obtain ⟨i1, i2⟩ := HP.out
      rw [h1, ← i2]
      congr 2
      omega

theorem keys_bd (hi l : Int) (ks : List Int) (h : keysOk hi l ks = true) (hl : 0 ≤ l) (hh : hi ≤ 10000) : ∀ k ∈ ks, 0 ≤ k ∧ k ≤ 9999 := by
  induction ks generalizing l with
  | nil => intro k hk; cases hk
  | cons x r ih =>
    simp only [keysOk, Bool.and_eq_true, decide_eq_true_eq] at h
    intro k hk
    rcases List.mem_cons.1 hk with rfl | hk
    · omega
    · exact ih (x + 1) h.2.2 (by omega) k hk
theorem vals_bd (lv : Int) (vs : List Int) (h : valsOk lv vs = true) : ∀ v ∈ vs, valOk lv v = true := by
  induction vs with
  | nil => intro k hk; cases hk
  | cons x r ih =>
    simp only [valsOk, Bool.and_eq_true] at h
    intro k hk
    rcases List.mem_cons.1 hk with rfl | hk
    · exact h.1
    · exact ih h.2 k hk
theorem val_bd (lv v : Int) (h : valOk lv v = true) : 0 ≤ v ∧ v.toNat < 10 ^ vw lv := by
  unfold valOk at h
  unfold vw
  split at h
  · rename_i h0; simp [h0]; simp at h; omega
  · rename_i h0; simp [h0]; simp [pageOk] at h; omega

theorem right_bd (n : Nd) (h : rightB n = true) : 0 ≤ n.lv ∧ n.lv ≤ 9 ∧ ((n.hi = 10000 ∧ n.lk = -1) ∨ (1 ≤ n.hi ∧ n.hi ≤ 9999 ∧ 1 ≤ n.lk ∧ n.lk ≤ 63)) ∧ n.ks.length = n.vs.length ∧ n.ks.length ≤ 6 ∧ (n.lv = 0 → n.ks.length ≤ 5) ∧ (∀ k ∈ n.ks, 0 ≤ k ∧ k ≤ 9999) ∧ (∀ v ∈ n.vs, 0 ≤ v ∧ v.toNat < 10 ^ vw n.lv) := by
  unfold rightB at h
  simp only [Bool.and_eq_true, decide_eq_true_eq] at h
  obtain ⟨h1, h2, h3, h4, h5, h6, h7⟩ := h
  have hE : (n.hi = 10000 ∧ n.lk = -1) ∨ (1 ≤ n.hi ∧ n.hi ≤ 9999 ∧ 1 ≤ n.lk ∧ n.lk ≤ 63) := by
    unfold endOk at h3
    split at h3
    · rename_i e; exact Or.inl ⟨e, by simpa using h3⟩
    · simp [pageOk] at h3; right; omega
  have hC : n.ks.length ≤ 6 ∧ (n.lv = 0 → n.ks.length ≤ 5) := by
    unfold cntOk at h5
    split at h5
    · simp at h5; omega
    · simp at h5; omega
  refine ⟨h1, h2, hE, h4, hC.1, hC.2, keys_bd _ _ _ h6 (by unfold least; split <;> omega) (by omega), fun v hv => val_bd _ _ (vals_bd _ _ h7 v hv)⟩

theorem pow1 : (10 : Nat) ^ (1 : Int).toNat = 10 := rfl
theorem pow2 : (10 : Nat) ^ (2 : Int).toNat = 100 := rfl
theorem pow4 : (10 : Nat) ^ (4 : Int).toNat = 10000 := rfl

set_option maxRecDepth 100000 in
set_option maxHeartbeats 800000 in
theorem headText_any (n : Nd) (kv vv : Value) (w : World) (htab : Tab w) (h : rightB n = true) :
    Calls Tryd.prog 41 #[.agg #[.int .i64 n.lv, .int .i64 n.lk, .int .i64 n.hi, kv, vv]] w fun e w' => ∃ b, e = .returned (.string b) ∧ b.data.toList = headT n ∧ b.size = 7 ∧ Below w.heap.size w w' := by
  obtain ⟨h1, h2, h3, -⟩ := right_bd n h
  clear h
  obtain ⟨lv, lk, hi, ks, vs⟩ := n
  simp only at h1 h2 h3 ⊢
  have HT : Hid (Tab w) := htab
  clear htab
  rcases h3 with ⟨h3, h4⟩ | ⟨h3, h4, h5, h6⟩
  · have H3 : Hid (hi = 10000) := h3
    have h3' : (hi == 10000) = true := by simp [h3]
    clear h3 h4
    go_enter Tryd.func41, Tryd.ntmps41
    go_wp2_with fail
    refine (digits_any lv 1 _ (HT.out.alloc _) (by omega) (by omega) (by omega) (by rw [pow1]; omega)).mono ?_
    rintro e w1 ⟨b1, rfl, hd1, hs1, hb⟩
    obtain ⟨q0, q1, q2, q3, q4⟩ := (Box.new w (.int .i64 lv) (.int .i64 lk) (.int .i64 hi) kv vv 24).below hb
    have hb1 := step ((Below.refl _ _).alloc (Nat.le_refl _) _) hb
    clear hb
    have hz1 : b1.size ≤ 1 := by rw [hs1]; decide
    have HS1 : Hid (b1.size = 1) := hs1
    have HD1 : Hid (b1.data.toList = dg 1 lv.toNat) := hd1
    clear hs1 hd1
    go_wp2
    go_ret
    refine ⟨_, rfl, ?_, ?_, hb1⟩
    · rw [ba_append, ba_append, HD1.out]; unfold headT; simp only [H3.out, if_true]; rw [List.append_assoc]; rfl
    · rw [ByteArray.size_append, ByteArray.size_append, HS1.out]; rfl
  · have H3 : Hid (¬ hi = 10000) := by unfold Hid; omega
    have h3' : (hi == 10000) = false := by simp; omega
    go_enter Tryd.func41, Tryd.ntmps41
    go_wp2_with fail
    refine (digits_any lv 1 _ (HT.out.alloc _) (by omega) (by omega) (by omega) (by rw [pow1]; omega)).mono ?_
    rintro e w1 ⟨b1, rfl, hd1, hs1, hb⟩
    have B1 := (Box.new w (.int .i64 lv) (.int .i64 lk) (.int .i64 hi) kv vv 24).below hb
    obtain ⟨q0, q1, q2, q3, q4⟩ := B1
    have hb1 := step ((Below.refl _ _).alloc (Nat.le_refl _) _) hb
    clear hb
    have hz1 : b1.size ≤ 1 := by rw [hs1]; decide
    have HS1 : Hid (b1.size = 1) := hs1
    have HD1 : Hid (b1.data.toList = dg 1 lv.toNat) := hd1
    clear hs1 hd1
    go_wp2_with fail
    refine (digits_any lk 2 _ (HT.out.below hb1) (by omega) (by omega) (by omega) (by rw [pow2]; omega)).mono ?_
    rintro e w2 ⟨b2, rfl, hd2, hs2, hb⟩
    have B2 := Box.below ⟨q0, q1, q2, q3, q4⟩ hb
    clear q0 q1 q2 q3 q4
    obtain ⟨q0, q1, q2, q3, q4⟩ := B2
    have hb2 := step hb1 hb
    clear hb hb1
    have hz2 : b2.size ≤ 2 := by rw [hs2]; decide
    have HS2 : Hid (b2.size = 2) := hs2
    have HD2 : Hid (b2.data.toList = dg 2 lk.toNat) := hd2
    clear hs2 hd2
    go_wp2_with fail
    refine (digits_any hi 4 _ (HT.out.below hb2) (by omega) (by omega) (by omega) (by rw [pow4]; omega)).mono ?_
    rintro e w3 ⟨b3, rfl, hd3, hs3, hb⟩
    have hb3 := step hb2 hb
    clear hb hb2
    have hz3 : b3.size ≤ 4 := by rw [hs3]; decide
    have HS3 : Hid (b3.size = 4) := hs3
    have HD3 : Hid (b3.data.toList = dg 4 hi.toNat) := hd3
    clear hs3 hd3
    go_wp2
    go_ret
    refine ⟨_, rfl, ?_, ?_, hb3⟩
    · rw [ba_append, ba_append, HD1.out, HD2.out, HD3.out]; unfold headT; simp only [H3.out, if_false]; rw [List.append_assoc]
    · rw [ByteArray.size_append, ByteArray.size_append, HS1.out, HS2.out, HS3.out]
end Go.Proofs.YtajobgmnmbnhiaaDoor.Sap
