/- WHAT IS PROVED HERE: plain facts on nodes and their texts (decimal digits, when a node is right, its text, reading it back); no program. Conditions: none. -/

namespace Go.Proofs.YtajobgmnmbnhiaaGreatDoor.Sap

structure Nd where
  lv : Int
  lk : Int
  hi : Int
  ks : List Int
  vs : List Int
def pageOk (p : Int) : Bool := decide (1 ≤ p) && decide (p < 64)
def endOk (lk hi : Int) : Bool := if hi = 10000 then decide (lk = -1) else decide (1 ≤ hi) && (decide (hi < 10000) && pageOk lk)
def cntOk (lv n : Int) : Bool := if lv = 0 then decide (n ≤ 5) else decide (1 ≤ n) && decide (n ≤ 6)
def keysOk (hi : Int) : Int → List Int → Bool
  | _, [] => true
  | l, k :: r => decide (l ≤ k) && (decide (k < hi) && keysOk hi (k + 1) r)
def valOk (lv v : Int) : Bool := if lv = 0 then decide (0 ≤ v) && decide (v ≤ 9999) else pageOk v
def valsOk (lv : Int) : List Int → Bool
  | [] => true
  | v :: r => valOk lv v && valsOk lv r
def least (lv : Int) : Int := if lv = 0 then 1 else 0
def rightB (n : Nd) : Bool :=
  decide (0 ≤ n.lv) && (decide (n.lv ≤ 9) && (endOk n.lk n.hi && (decide (n.ks.length = n.vs.length) && (cntOk n.lv n.ks.length && (keysOk n.hi (least n.lv) n.ks && valsOk n.lv n.vs)))))
def dg : Nat → Nat → List UInt8
  | 0, _ => []
  | w + 1, n => dg w (n / 10) ++ [UInt8.ofNat (48 + n % 10)]
def isDig (c : UInt8) : Bool := decide (48 ≤ c.toNat) && decide (c.toNat ≤ 57)
def allDig : List UInt8 → Bool
  | [] => true
  | c :: r => isDig c && allDig r
def wthFrom : Nat → List UInt8 → Nat
  | a, [] => a
  | a, c :: r => wthFrom (10 * a + c.toNat % 16 % 10) r
def wth (s : List UInt8) : Nat := wthFrom 0 s
theorem len_dg (w n : Nat) : (dg w n).length = w := by
  induction w generalizing n with
  | zero => rfl
  | succ w ih => simp [dg, ih]
theorem dig_toNat (k : Nat) (h : k < 10) : (UInt8.ofNat (48 + k)).toNat = 48 + k := by
  simp [UInt8.toNat_ofNat]; omega
theorem allDig_append (a b : List UInt8) : allDig (a ++ b) = (allDig a && allDig b) := by
  induction a with
  | nil => rfl
  | cons c r ih => simp [allDig, ih, Bool.and_assoc]
theorem allDig_dg (w n : Nat) : allDig (dg w n) = true := by
  induction w generalizing n with
  | zero => rfl
  | succ w ih =>
    have := dig_toNat (n % 10) (Nat.mod_lt _ (by decide))
    simp only [dg, allDig_append, ih, allDig, isDig, this]
    simp; omega
theorem wthFrom_append (a : Nat) (s t : List UInt8) : wthFrom a (s ++ t) = wthFrom (wthFrom a s) t := by
  induction s generalizing a with
  | nil => rfl
  | cons c r ih => simp [wthFrom, ih]
theorem wth_dg (w n : Nat) (h : n < 10 ^ w) : wth (dg w n) = n := by
  unfold wth
  induction w generalizing n with
  | zero => simp [dg, wthFrom]; simp at h; omega
  | succ w ih =>
    have h2 : n / 10 < 10 ^ w := by rw [Nat.div_lt_iff_lt_mul (by decide)]; rw [Nat.pow_succ] at h; omega
    have hd := dig_toNat (n % 10) (Nat.mod_lt _ (by decide))
    simp only [dg, wthFrom_append, ih _ h2, wthFrom, hd]
    omega
theorem wthFrom_lt (a : Nat) (s : List UInt8) : wthFrom a s < (a + 1) * 10 ^ s.length := by
  induction s generalizing a with
  | nil => simp [wthFrom]
  | cons c r ih =>
    have h := ih (10 * a + c.toNat % 16 % 10)
    have e : (10 * a + c.toNat % 16 % 10 + 1) ≤ (a + 1) * 10 := by omega
    have e2 := Nat.mul_le_mul_right (10 ^ r.length) e
    simp only [wthFrom, List.length_cons, Nat.pow_succ]
    have e3 : (a + 1) * (10 ^ r.length * 10) = (a + 1) * 10 * 10 ^ r.length := by rw [Nat.mul_comm (10 ^ r.length) 10, Nat.mul_assoc]
    omega
theorem wth_lt (s : List UInt8) : wth s < 10 ^ s.length := by
  have := wthFrom_lt 0 s; simpa [wth] using this
theorem dg_snoc_inv (s : List UInt8) (h : allDig s = true) : dg s.length (wth s) = s := by
  have key : ∀ n (s : List UInt8), s.length = n → allDig s = true → dg n (wth s) = s := by
    intro n
    induction n with
    | zero => intro s hs _; rw [List.eq_nil_of_length_eq_zero hs]; rfl
    | succ n ih =>
      intro s hs hd
      obtain ⟨t, c, rfl⟩ : ∃ t c, s = t ++ [c] := by
        exact ⟨s.dropLast, s.getLast (by intro e; simp [e] at hs), (List.dropLast_concat_getLast _).symm⟩
      simp only [List.length_append, List.length_cons, List.length_nil] at hs
      rw [allDig_append] at hd
      simp only [allDig, isDig, Bool.and_true, Bool.and_eq_true, decide_eq_true_eq] at hd
      have ht := ih t (by omega) hd.1
      unfold wth at ht ⊢
      rw [wthFrom_append]
      simp only [wthFrom, dg]
      have hc : c.toNat % 16 % 10 = c.toNat - 48 := by omega
      rw [hc]
      have e1 : (10 * wthFrom 0 t + (c.toNat - 48)) / 10 = wthFrom 0 t := by omega
      have e2 : 48 + (10 * wthFrom 0 t + (c.toNat - 48)) % 10 = c.toNat := by omega
      rw [e1, e2, ht]
      simp
  exact key s.length s rfl h
def vw (lv : Int) : Nat := if lv = 0 then 4 else 2
def wd (lv : Int) : Nat := 4 + vw lv
def ents (lv : Int) : List Int → List Int → List UInt8
  | k :: ks, v :: vs => dg 4 k.toNat ++ dg (vw lv) v.toNat ++ ents lv ks vs
  | _, _ => []
def headT (n : Nd) : List UInt8 := dg 1 n.lv.toNat ++ if n.hi = 10000 then [45, 45, 45, 45, 45, 45] else dg 2 n.lk.toNat ++ dg 4 n.hi.toNat
def packT (n : Nd) : List UInt8 := headT n ++ ents n.lv n.ks n.vs
theorem len_headT (n : Nd) : (headT n).length = 7 := by
  unfold headT; split <;> simp [len_dg]
theorem len_ents (lv : Int) (ks vs : List Int) (h : ks.length = vs.length) : (ents lv ks vs).length = wd lv * ks.length := by
  induction ks generalizing vs with
  | nil => cases vs <;> simp [ents]
  | cons k ks ih =>
    cases vs with
    | nil => simp at h
    | cons v vs =>
      simp only [ents, List.length_append, len_dg, List.length_cons, ih vs (by simpa using h)]
      unfold wd; rw [Nat.mul_add]; omega
def seg (s : List UInt8) (a n : Nat) : List UInt8 := (s.drop a).take n
theorem seg_ents (lv : Int) (ks vs : List Int) (i : Nat) (h : ks.length = vs.length) (hi : i < ks.length) :
    seg (ents lv ks vs) (i * wd lv) 4 = dg 4 (ks[i]?.getD 0).toNat ∧ seg (ents lv ks vs) (i * wd lv + 4) (vw lv) = dg (vw lv) (vs[i]?.getD 0).toNat := by
  induction ks generalizing vs i with
  | nil => simp at hi
  | cons k ks ih =>
    cases vs with
    | nil => simp at h
    | cons v vs =>
      cases i with
      | zero =>
        simp only [ents, seg, Nat.zero_mul, List.drop_zero, Nat.zero_add]
        have e1 : (dg 4 k.toNat ++ dg (vw lv) v.toNat ++ ents lv ks vs).take 4 = dg 4 k.toNat := by
          rw [List.append_assoc]; exact List.take_left' (len_dg _ _)
        have e2 : ((dg 4 k.toNat ++ dg (vw lv) v.toNat ++ ents lv ks vs).drop 4).take (vw lv) = dg (vw lv) v.toNat := by
          rw [List.append_assoc, List.drop_left' (len_dg _ _)]; exact List.take_left' (len_dg _ _)
        exact ⟨by simpa using e1, by simpa using e2⟩
      | succ i =>
        have hh := ih vs i (by simpa using h) (by simpa using hi)
        have el : (dg 4 k.toNat ++ dg (vw lv) v.toNat).length = wd lv := by simp [len_dg, wd]
        have hx : ∀ a, (ents lv (k :: ks) (v :: vs)).drop ((i + 1) * wd lv + a) = (ents lv ks vs).drop (i * wd lv + a) := by
          intro a
          have : (i + 1) * wd lv + a = (dg 4 k.toNat ++ dg (vw lv) v.toNat).length + (i * wd lv + a) := by rw [el, Nat.add_mul]; omega
          rw [this]; simp only [ents]; rw [← List.drop_drop, List.drop_left]
        have h0 := hx 0
        have h4 := hx 4
        simp only [Nat.add_zero] at h0
        refine ⟨?_, ?_⟩
        · unfold seg; rw [h0]; exact hh.1
        · unfold seg; rw [h4]; exact hh.2
theorem ba_ext {a b : ByteArray} (h : a.data.toList = b.data.toList) : a = b := by
  cases a; cases b; simp_all
theorem ba_append (a b : ByteArray) : (a ++ b).data.toList = a.data.toList ++ b.data.toList := by
  simp [ByteArray.data_append]
theorem ba_extract (a : ByteArray) (i j : Nat) : (a.extract i j).data.toList = seg a.data.toList i (j - i) := by
  simp [ByteArray.data_extract, seg]
theorem ba_size (a : ByteArray) : a.data.toList.length = a.size := Array.length_toList
def kAt (lv : Int) (s : List UInt8) (i : Nat) : Int := wth (seg s (7 + i * wd lv) 4)
def vAt (lv : Int) (s : List UInt8) (i : Nat) : Int := wth (seg s (7 + i * wd lv + 4) (vw lv))
def digAt (lv : Int) (s : List UInt8) (i : Nat) : Bool := allDig (seg s (7 + i * wd lv) 4) && allDig (seg s (7 + i * wd lv + 4) (vw lv))
def kL (lv : Int) (s : List UInt8) (j : Nat) : List Int := (List.range j).map (kAt lv s)
def vL (lv : Int) (s : List UInt8) (j : Nat) : List Int := (List.range j).map (vAt lv s)
def entOk (lv : Int) (s : List UInt8) : Prop := ∃ j, 7 + j * wd lv = s.length ∧ ∀ i, i < j → digAt lv s i = true
theorem len_kL (lv : Int) (s : List UInt8) (j : Nat) : (kL lv s j).length = j := by simp [kL]
theorem len_vL (lv : Int) (s : List UInt8) (j : Nat) : (vL lv s j).length = j := by simp [vL]
theorem kL_succ (lv : Int) (s : List UInt8) (j : Nat) : kL lv s (j + 1) = kL lv s j ++ [kAt lv s j] := by simp [kL, List.range_succ]
theorem vL_succ (lv : Int) (s : List UInt8) (j : Nat) : vL lv s (j + 1) = vL lv s j ++ [vAt lv s j] := by simp [vL, List.range_succ]
theorem wd_pos (lv : Int) : 6 ≤ wd lv ∧ wd lv ≤ 8 ∧ wd lv = 4 + vw lv := by
  unfold wd vw; split <;> decide
theorem ent_no (lv : Int) (s : List UInt8) (j : Nat) (h : 7 + j * wd lv + wd lv ≤ s.length) (hd : digAt lv s j = false) : ¬ entOk lv s := by
  rintro ⟨J, h1, h2⟩
  have hw := (wd_pos lv).1
  have h3 : j < J := by
    rcases Nat.lt_or_ge j J with h' | h'
    · exact h'
    · have := Nat.mul_le_mul_right (wd lv) h'; omega
  rw [h2 j h3] at hd; cases hd
theorem ent_no2 (lv : Int) (s : List UInt8) (j : Nat) (h1 : 7 + j * wd lv ≤ s.length) (h2 : s.length < 7 + j * wd lv + wd lv) (h3 : 7 + j * wd lv ≠ s.length) : ¬ entOk lv s := by
  rintro ⟨J, e, -⟩
  have hw := (wd_pos lv).1
  rcases Nat.lt_trichotomy j J with h' | h' | h'
  · have := Nat.mul_le_mul_right (wd lv) (show j + 1 ≤ J from h')
    rw [Nat.add_mul] at this; omega
  · subst h'; omega
  · have := Nat.mul_le_mul_right (wd lv) (show J + 1 ≤ j from h')
    rw [Nat.add_mul] at this; omega
theorem ext_seg (s : ByteArray) (p n : Nat) : (s.extract p (p + n)).data.toList = seg s.data.toList p n := by
  rw [ba_extract, Nat.add_sub_cancel_left]
theorem ext_seg2 (s : ByteArray) (p n v : Nat) (h : n = 4 + v) : (s.extract (p + 4) (p + n)).data.toList = seg s.data.toList (p + 4) v := by
  rw [ba_extract]; congr 1; omega
end Go.Proofs.YtajobgmnmbnhiaaGreatDoor.Sap
