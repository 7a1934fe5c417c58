/- WHAT IS PROVED HERE: tree's reader gives back a number, and a list of numbers, where they stand in a frame. Conditions: the numbers are 0 to 10^17, the lists short, the frame no longer than a million bytes. -/
import Derived.Test.YtajobgmnmbnhiaaGreatDoorPt07
import Derived.Test.YtajobgmnmbnhiaaGreatDoorPt10
import Derived.BigQuiet
import Derived.Lib.BufferOwn
import Derived.WalkSmall
namespace Go.Proofs.YtajobgmnmbnhiaaGreatDoor.Sap
open Go.RowKit
theorem dec_cases (n : Nat) : ∃ xs : List UInt8, ∃ c : UInt8, Lib.decDigits n = xs ++ [c] ∧ 48 ≤ c.toNat ∧ c.toNat ≤ 57 ∧ c.toNat = 48 + n % 10 ∧ (n < 10 → xs = []) ∧ (10 ≤ n → xs = Lib.decDigits (n / 10)) := by
  have hm : n % 10 < 10 := Nat.mod_lt _ (by omega)
  have hc : (UInt8.ofNat (48 + n % 10)).toNat = 48 + n % 10 := by
    rw [UInt8.toNat_ofNat']; omega
  by_cases h : n < 10
  · refine ⟨[], UInt8.ofNat (48 + n % 10), ?_, by omega, by omega, hc, fun _ => rfl, fun h2 => by omega⟩
    rw [decDigits_small n h, Nat.mod_eq_of_lt h]; rfl
  · exact ⟨Lib.decDigits (n / 10), UInt8.ofNat (48 + n % 10), decDigits_big n h, by omega, by omega, hc, fun h2 => by omega, fun _ => rfl⟩
theorem wth_dec (n : Nat) : wth (Lib.decDigits n) = n ∧ (∀ c ∈ Lib.decDigits n, 48 ≤ c.toNat ∧ c.toNat ≤ 57) ∧ 1 ≤ (Lib.decDigits n).length := by
  induction n using Nat.strongRecOn with
  | _ n ih =>
    obtain ⟨xs, c, h1, h2, h3, h4, h5, h6⟩ := dec_cases n
    rw [h1, wth_snoc]
    by_cases h : n < 10
    · rw [h5 h]
      refine ⟨by rw [show wth ([] : List UInt8) = 0 from rfl]; omega, fun x hx => ?_, by simp⟩
      simp at hx; subst hx; exact ⟨h2, h3⟩
    · obtain ⟨i1, i2, i3⟩ := ih (n / 10) (by omega)
      rw [h6 (by omega)]
      refine ⟨by rw [i1]; omega, fun x hx => ?_, by simp⟩
      rcases List.mem_append.1 hx with hx | hx
      · exact i2 x hx
      · simp at hx; subst hx; exact ⟨h2, h3⟩
theorem wth_take_aux (xs : List UInt8) (d : Nat) : ∀ k : Nat, xs.length ≤ k + d → wth (xs.take k) ≤ wth xs := by
  induction d with
  | zero => intro k h; rw [List.take_of_length_le (by omega)]; exact Nat.le_refl _
  | succ d ih =>
    intro k hd
    by_cases h : xs.length ≤ k
    · rw [List.take_of_length_le h]; exact Nat.le_refl _
    · have ih := ih (k + 1) (by omega)
      have e : xs.take (k + 1) = xs.take k ++ [xs[k]'(by omega)] := by rw [List.take_add_one, List.getElem?_eq_getElem (by omega)]; rfl
      rw [e, wth_snoc] at ih
      omega
theorem wth_take_le (xs : List UInt8) (k : Nat) : wth (xs.take k) ≤ wth xs := wth_take_aux xs xs.length k (by omega)
def posOf (w : World) (g : Nat) : Nat := match w.cell? ⟨g, 1, none⟩ with | some (.int _ q) => q.toNat | _ => 0
def RdR (w : World) (g : Nat) (s : ByteArray) (a : Nat) : Prop := w.heap[g]? = some (.cells #[.string s, .int .i64 a, .bool false] 138 (0, 0))
theorem RdR.set {w : World} {g : Nat} {s : ByteArray} {a b : Nat} (h : RdR w g s a) : RdR (w.setCell ⟨g, 1, none⟩ (.int .i64 b)) g s b := by
  unfold RdR at h ⊢
  rw [Go.Joins.block_setCell h]; rfl
theorem RdR.pos {w : World} {g : Nat} {s : ByteArray} {a : Nat} (h : RdR w g s a) : posOf w g = a := by
  unfold posOf; rw [cellOf h 1 _ rfl]; simp
theorem RdR.cells {w : World} {g : Nat} {s : ByteArray} {a : Nat} (h : RdR w g s a) : (w.cell? ⟨g, 0, none⟩ = some (.string s) ∧ w.cell? ⟨g, 1, none⟩ = some (.int .i64 a) ∧ w.cell? ⟨g, 2, none⟩ = some (.bool false)) ∧ (w.frozen? ⟨g, 1, none⟩ = false ∧ w.frozen? ⟨g, 2, none⟩ = false) :=
  ⟨⟨cellOf h 0 _ rfl, cellOf h 1 _ rfl, cellOf h 2 _ rfl⟩, ⟨Go.Joins.unfrozen_of_block h _, Go.Joins.unfrozen_of_block h _⟩⟩
theorem RdR.step {w : World} {g : Nat} {s : ByteArray} {p : Nat} (h : RdR w g s p) (d : Nat) : RdR ((w.drewN d).setCell ⟨g, 1, none⟩ (.int .i64 ((p : Int) + 1))) g s (p + 1) := by
  have h2 : RdR (w.drewN d) g s p := h
  have := h2.set (b := p + 1)
  rw [show (((p + 1 : Nat)) : Int) = (p : Int) + 1 by omega] at this
  exact this
theorem gr_step {w w' : World} {g : Nat} (h : w.grownBy w' (some g)) (d i : Nat) (v : Value) : w.grownBy ((w'.drewN d).setCell ⟨g, i, none⟩ v) (some g) :=
  Lib.grownBy_setB (w := w'.drewN d) ⟨h.os, h.tape, h.output, h.size, h.block⟩ i v
theorem at_of {s : ByteArray} {a j : Nat} {D r : List UInt8} (h : s.data.toList.drop a = D ++ r) (hj : j < (D ++ r).length) : ∃ hs : a + j < s.size, s[a + j] = (D ++ r)[j] := by
  have hl := congrArg List.length h
  rw [List.length_drop, ba_size] at hl
  refine ⟨by omega, ?_⟩
  have e : (s.data.toList.drop a)[j]? = some (D ++ r)[j] := by rw [h]; exact List.getElem?_eq_getElem hj
  rw [List.getElem?_drop] at e
  have e2 : s.data.toList[a + j]? = some s[a + j] := by
    rw [Array.getElem?_toList, Array.getElem?_eq_getElem (by have : s.data.size = s.size := rfl; omega)]; rfl
  rw [e2] at e
  exact Option.some.inj e
set_option maxRecDepth 100000 in
set_option maxHeartbeats 1600000 in
theorem rnum_any (g : Nat) (s : ByteArray) (a : Nat) (n : Nat) (rest : List UInt8) (w : World) (hg : RdR w g s a) (hs : s.data.toList.drop a = nb n ++ rest) (hn : n ≤ 100000000000000000) (hsz : s.size ≤ 1000000) :
    Calls Tryz.prog 77 #[.pointer (some ⟨g, 0, none⟩)] w fun e w' => e = .returned (.int .i64 n) ∧ RdR w' g s (a + (nb n).length) ∧ w.grownBy w' (some g) := by
  obtain ⟨D, hD⟩ : ∃ D, Lib.decDigits n = D := ⟨_, rfl⟩
  have hnb : nb n = D ++ [44] := by unfold nb; rw [Lib.itoa_nonneg, hD]
  rw [hnb] at hs ⊢
  obtain ⟨d1, d2, d3⟩ := wth_dec n
  rw [hD] at d1 d2 d3
  have HD1 := hideIt d1
  have HD2 := hideIt d2
  have HD3 := hideIt d3
  have HS := hideIt hs
  have HG := hideIt hg
  have hl := congrArg List.length hs
  simp only [List.length_append, List.length_cons, List.length_nil, List.length_drop, ba_size] at hl
  have HL : Hid (a + D.length + 1 ≤ s.size) := by unfold Hid; omega
  have q1 := cellOf hg 1 _ rfl
  clear hs hg hl d1 d2 d3 hnb hD
  go_enter Tryz.func77, Tryz.ntmps77
  go_wp2
  clear q1
  go_loopw [3] (fun t wr => ∃ p : Nat, a ≤ p ∧ Hid (p ≤ a + D.length) ∧ t = .int .i64 (wth (D.take (p - a))) ∧ Hid (RdR wr g s p) ∧ Hid (w.grownBy wr (some g))) (fun t wr => a + D.length + 1 - posOf wr g)
  case atStart => exact ⟨a, Nat.le_refl _, Nat.le_add_right _ _, by simp [wth, wthFrom], HG.out, World.grownBy.refl _ _⟩
  case round =>
    obtain ⟨p, hap, hpl, rfl, hR, hgr⟩ := hrel
    obtain ⟨⟨c0, c1, c2⟩, ⟨f1, f2⟩⟩ := hR.out.cells
    have hps : p < s.size := by have := HL.out; have := hpl.out; omega
    have hpi : (p : Int) < (s.size : Int) := by omega
    have hp0 : (0 : Int) ≤ (p : Int) := by omega
    have hb : (s[p].toNat : Int) < 256 := by have := UInt8.toNat_lt s[p]; omega
    have hb0 : (0 : Int) ≤ (s[p].toNat : Int) := by omega
    by_cases hlt : p < a + D.length
    · have HE : Hid (∃ h : p - a < D.length, s[p] = D[p - a]) := by
        obtain ⟨h1, h2⟩ := at_of (j := p - a) (by have := HS.out; rw [List.append_assoc] at this; exact this) (by simp; omega)
        refine ⟨by omega, ?_⟩
        simp only [show a + (p - a) = p by omega] at h2
        rw [h2, List.getElem_append_left (by omega)]
      have HT : Hid (wth (D.take (p + 1 - a)) = 10 * wth (D.take (p - a)) + s[p].toNat % 16 % 10) := by
        obtain ⟨h1, h2⟩ := HE.out
        unfold Hid
        rw [show p + 1 - a = (p - a) + 1 by omega, List.take_add_one, List.getElem?_eq_getElem h1, h2]
        exact wth_snoc _ _
      have hd : 48 ≤ s[p].toNat ∧ s[p].toNat ≤ 57 := by
        obtain ⟨h1, h2⟩ := HE.out
        rw [h2]; exact HD2.out _ (List.getElem_mem _)
      have hd1 : (48 : Int) ≤ (s[p].toNat : Int) := by omega
      have hd2 : (s[p].toNat : Int) ≤ 57 := by omega
      have hw : (wth (D.take (p - a)) : Int) ≤ 100000000000000000 := by
        have h1 := wth_take_le D (p - a)
        rw [HD1.out] at h1; omega
      have hw0 : (0 : Int) ≤ (wth (D.take (p - a)) : Int) := by omega
      clear hd
      go_wp2
      go_quiet (fail)
      go_wp2
      go_quiet (fail)
      go_wp2
      refine ⟨⟨p + 1, by omega, by unfold Hid; omega, ?_, RdR.step hR.out _, gr_step hgr.out _ _ _⟩, ?_⟩
      · rw [HT.out]; congr 1; omega
      · rw [(RdR.step hR.out _).pos, hR.out.pos]; omega
    · have hpe : p = a + D.length := by have := hpl.out; omega
      have HW : Hid (wth (D.take (p - a)) = n) := by unfold Hid; rw [hpe, Nat.add_sub_cancel_left, List.take_length, HD1.out]
      have h44 : s[p].toNat = 44 := by
        obtain ⟨h1, h2⟩ := at_of (j := D.length) (r := [44] ++ rest) (by have := HS.out; rw [List.append_assoc] at this; exact this) (by simp)
        have h3 : s[p] = s[a + D.length] := by congr 1
        rw [h3, h2, List.getElem_append_right (by omega)]
        simp
      have h45 : (s[p].toNat : Int) = 44 := by omega
      have hlow : (s[p].toNat : Int) < 48 := by omega
      have hne : ((p : Int) == (a : Int)) = false := by have := HD3.out; simp; omega
      have hb44 : ((s[p].toNat : Int) != 44) = false := by rw [h45]; decide
      have hdf : decide ((48 : Int) ≤ (s[p].toNat : Int)) = false := by rw [decide_eq_false_iff_not]; omega
      have hdg : decide ((s.size : Int) ≤ (p : Int)) = false := by rw [decide_eq_false_iff_not]; omega
      have HPE := hideIt hpe
      clear h44 h45 hlt hb hb0 hpe
      go_wp2
      go_quiet (fail)
      go_wp2
      go_quiet (fail)
      go_wp2
      go_ret
      refine ⟨by rw [HW.out]; rfl, ?_, gr_step hgr.out _ _ _⟩
      have e : a + (D ++ [44]).length = p + 1 := by rw [List.length_append, HPE.out]; rfl
      rw [e]
      exact RdR.step hR.out _
theorem RdR.app {w w1 : World} {g : Nat} {s : ByteArray} {a : Nat} {o : Obj} {row : Option Nat} (h : RdR w g s a) (k : (w.alloc o).grownBy w1 row) (hr : row ≠ some g) : RdR w1 g s a := by
  have hl := lt_of_block h
  unfold RdR at h ⊢
  rw [k.block g (by simp; omega) (fun e => hr e.symm)]
  exact block_alloc h o
set_option maxRecDepth 100000 in
set_option maxHeartbeats 1600000 in
theorem rlist_any (g : Nat) (s : ByteArray) (a : Nat) (xs : List Int) (rest : List UInt8) (w : World) (hg : RdR w g s a) (hs : s.data.toList.drop a = lst xs ++ rest) (hl : xs.length ≤ 64) (hx : ∀ x ∈ xs, Fr x) (hsz : s.size ≤ 1000000) :
    Calls Tryz.prog 78 #[.pointer (some ⟨g, 0, none⟩)] w fun e w' => ∃ v, e = .returned v ∧ w'.ownsRow w.heap.size 3 1 v xs.length (ints xs) ∧ RdR w' g s (a + (lst xs).length) ∧ w.grownBy w' (some g) := by
  obtain ⟨i0, hi0, hz0, hz1, hz2⟩ := info_parts infoInt
  obtain ⟨m, hm⟩ : ∃ m, xs.length = m := ⟨_, rfl⟩
  have HM := hideIt hm
  have HS := hideIt hs
  have HX := hideIt hx
  have HG := hideIt hg
  have hgl := lt_of_block hg
  rw [hm] at hl ⊢
  clear hm hs hx hg
  go_enter Tryz.func78, Tryz.ntmps78
  go_wp2_with fail
  refine (rnum_any g s a m (nbs xs ++ rest) w HG.out (by have := HS.out; unfold lst at this; rw [HM.out, List.append_assoc] at this; exact this) (by omega) hsz).mono ?_
  rintro e w1 ⟨rfl, hR1, hg1⟩
  have R1 := hideIt hR1
  have G1 := hideIt hg1
  clear hR1 hg1
  go_wp2
  go_loopw [4, 5] (fun o i wr => ∃ k : Nat, k ≤ m ∧ i = .int .i64 k ∧ Hid (wr.ownsRow w.heap.size 3 1 o k (ints (xs.take k))) ∧ Hid (RdR wr g s (a + (nb m).length + (nbs (xs.take k)).length)) ∧ Hid (w.grownBy wr (some g))) (fun _ i _ => m - (intOf i).toNat)
  case atStart => exact ⟨0, Nat.zero_le _, rfl, World.ownsRow_nil _ _ _ _, by simpa [nbs, Hid] using R1.out, G1.out⟩
  case round =>
    obtain ⟨k, hk, rfl, hO, hR, hgr⟩ := hrel
    obtain ⟨ao, cap, rfl⟩ := own_form hO.out
    obtain ⟨⟨c0, c1, c2⟩, -⟩ := hR.out.cells
    by_cases hlt : k < m
    · have hkk : (k : Int) < (m : Int) := by omega
      obtain ⟨x, hxk⟩ : ∃ x, xs[k]?.getD 0 = x := ⟨_, rfl⟩
      have hfx : Fr x := by rw [← hxk]; exact HX.out _ (mem_at (by rw [HM.out]; exact hlt))
      obtain ⟨y, rfl⟩ : ∃ y : Nat, x = (y : Int) := ⟨x.toNat, by have := hfx.1; omega⟩
      have hy : y ≤ 100000000000000000 := by have := hfx.2; omega
      have HT : Hid (ints (xs.take (k + 1)) = ints (xs.take k) ++ [.int .i64 y] ∧ nbs (xs.take (k + 1)) = nbs (xs.take k) ++ nb y) := by
        refine ⟨?_, by rw [nbs_snoc xs k (by rw [HM.out]; exact hlt), hxk]⟩
        rw [← ints_snoc, List.take_add_one, ← hxk, List.getElem?_eq_getElem (by rw [HM.out]; exact hlt)]; rfl
      have HD : Hid (∃ r2, s.data.toList.drop (a + (nb m).length + (nbs (xs.take k)).length) = nb y ++ r2) := by
        have h1 := HS.out
        have h2 : lst xs ++ rest = (nb m ++ nbs (xs.take k)) ++ (nb y ++ (nbs (xs.drop (k + 1)) ++ rest)) := by
          have e : nbs xs = nbs (xs.take (k + 1)) ++ nbs (xs.drop (k + 1)) := by
            unfold nbs
            rw [← List.flatten_append, ← List.map_append, List.take_append_drop]
          unfold lst
          rw [HM.out, e, HT.out.2]
          simp [List.append_assoc]
        rw [h2] at h1
        have h3 := congrArg (List.drop (nb m ++ nbs (xs.take k)).length) h1
        rw [List.drop_drop, List.drop_left] at h3
        refine ⟨nbs (xs.drop (k + 1)) ++ rest, ?_⟩
        rw [List.length_append] at h3
        rw [Nat.add_assoc]
        exact h3
      clear hxk hfx
      have hwr := hgr.out.size
      go_wp2_with fail
      obtain ⟨r2, hr2⟩ := HD.out
      refine (rnum_any g s _ y r2 wr hR.out hr2 hy hsz).mono ?_
      rintro e w2 ⟨rfl, hR2, hg2⟩
      have R2 := hideIt hR2
      have G2 := hideIt (hgr.out.trans hg2)
      have O2 := hideIt (owns_gr hO.out hg2 hgl)
      have hw2 := G2.out.size
      clear hR2 hg2 c0 c1 c2 hr2
      go_wp2_with (at_builtin; refine wpList_append_own_at _ rfl _ _ 22 rfl w.heap.size 3 i0 (.int .i64 0) 1 8 Tryz.underlying22 hi0 hz0 hz1 hz2 rfl (by decide) _ k (ints (xs.take k)) rfl (O2.out.alloc _) ⟨w2.heap.size, 0, none⟩ 1 1 [.int .i64 y] rfl rfl (news_one _ _ _) (by simp [Value.oneCell']) (by unfold maxLen; omega) (by omega) (by simp; omega) ?_; intro v1 w3 hown hgrow _ _; obtain ⟨ao1, cp1, rfl⟩ := own_form hown; rw [← HT.out.1] at hown; have O3 := hideIt hown; have G3 := hideIt (gr_app G2.out hgrow (fun j hj => (O2.out.lt j hj).1)); have R3 := hideIt (R2.out.app hgrow (fun e => by have := (O2.out.lt g e).1; omega)); clear hown hgrow)
      go_roundw
      case rel => exact ⟨k + 1, by omega, by go_num, O3.out, by unfold Hid; rw [HT.out.2, List.length_append, ← Nat.add_assoc]; exact R3.out, G3.out⟩
      case measure => simp [intOf]; omega
    · obtain rfl : k = m := by omega
      go_wp2
      go_ret
      refine ⟨_, rfl, ?_, ?_, hgr.out⟩
      · have := hO.out
        rw [← HM.out, List.take_length] at this
        rw [← HM.out]; exact this
      · have := hR.out
        rw [← HM.out, List.take_length] at this
        unfold lst
        rw [List.length_append, ← Nat.add_assoc]; exact this
theorem rest_eq (s t : ByteArray) (a : Nat) (h : s.data.toList.drop a = t.data.toList) : s.extract a s.size = t := by
  refine ba_ext ?_
  rw [ba_extract, ← h]
  unfold seg
  rw [List.take_of_length_le]
  rw [List.length_drop, ba_size]
  omega
set_option maxRecDepth 100000 in
set_option maxHeartbeats 1600000 in
theorem rrest_any (g : Nat) (s : ByteArray) (a : Nat) (t : ByteArray) (w : World) (hg : RdR w g s a) (hs : s.data.toList.drop a = nb (t.size : Int) ++ t.data.toList) (ht : t.size ≤ 1000) (hsz : s.size ≤ 1000000) :
    Calls Tryz.prog 79 #[.pointer (some ⟨g, 0, none⟩)] w fun e w' => e = .returned (.string t) ∧ RdR w' g s (a + (nb (t.size : Int)).length) ∧ w.grownBy w' (some g) := by
  have C := hideIt (rnum_any g s a t.size t.data.toList w hg hs (by omega) hsz)
  have hd : s.data.toList.drop (a + (nb (t.size : Int)).length) = t.data.toList := by rw [← List.drop_drop, hs, List.drop_left]
  have hl : s.size = a + (nb (t.size : Int)).length + t.size ∨ (t.size = 0 ∧ s.size ≤ a + (nb (t.size : Int)).length) := by
    have h1 := congrArg List.length hd
    rw [List.length_drop, ba_size, ba_size] at h1
    omega
  have hl2 : a + (nb (t.size : Int)).length ≤ s.size := by
    have h1 := congrArg List.length hs
    rw [List.length_drop, List.length_append, ba_size, ba_size] at h1
    have h2 : 0 < (nb (t.size : Int)).length := by simp [nb]
    omega
  obtain ⟨b, hb⟩ : ∃ b, a + (nb (t.size : Int)).length = b := ⟨_, rfl⟩
  rw [hb] at C hd hl hl2 ⊢
  have hsb : s.size = b + t.size := by omega
  have HE := hideIt (rest_eq s t b hd)
  have hz : (t.size : Int) = (s.size : Int) - (b : Int) := by omega
  have hzb : ((t.size : Int) != (s.size : Int) - (b : Int)) = false := by simp [hz]
  have hl3 : (b : Int) ≤ (s.size : Int) := by omega
  have hl4 : (0 : Int) ≤ (b : Int) := by omega
  clear hs hg hd hl hb hz hsb
  go_enter Tryz.func79, Tryz.ntmps79
  go_wp2_with fail
  refine C.out.mono ?_
  rintro e w1 ⟨rfl, hR, hb⟩
  have HR := hideIt hR
  have HB := hideIt hb
  obtain ⟨⟨c0, c1, c2⟩, -⟩ := hR.cells
  clear hR hb C
  go_wp2
  go_quiet (fail)
  go_wp2
  go_quiet (fail)
  go_wp2
  go_ret
  have h1 := HB.out
  exact ⟨congrArg (fun z => Ending.returned (Value.string z)) HE.out, HR.out, ⟨h1.os, h1.tape, h1.output, h1.size, h1.block⟩⟩
structure StOk (s : St) : Prop where
  op : opR s.kd s.key s.val = true
  val : Fr s.val
  step : Fr s.step
  pg : 0 ≤ s.pg ∧ s.pg ≤ 63
  keys : ∀ x ∈ s.keys, Fr x
  vals : ∀ x ∈ s.vals, Fr x
  pts : ∀ x ∈ s.pts, Fr x
  kl : s.keys.length = s.vals.length
  kl12 : s.keys.length < 12
  bl : s.bel.length = s.pts.length
  bl64 : s.bel.length ≤ 64
  bel : keysOk (s.val + 1) (s.key + 1) s.bel = true
  seen : s.kd = 4 ∨ (s.keys = [] ∧ s.vals = [] ∧ s.bel = [] ∧ s.pts = [])
  ver : Fr s.ver
  laid : Fr s.laid
  lv : Fr s.lv
  low : Fr s.low
  ch : Fr s.ch
  pt : Fr s.pt
  swL : s.sw.size ≤ 47
  sw : (s.sw = ⟨#[]⟩ ∧ s.ver = 0 ∧ s.laid = 0) ∨ (s.sw ≠ ⟨#[]⟩ ∧ (s.kd = 2 ∨ s.kd = 3))
  sp : ∀ x ∈ s.sp, 1 ≤ x ∧ x ≤ 63
  sv : ∀ x ∈ s.sv, Fr x
  spk : s.kd = 2 ∨ s.sp = []
  spl : s.sp.length = s.sv.length
  sp2 : s.sp.length ≤ 2
  laidL : s.laid ≤ s.sp.length
  ent : (s.lv = 0 ∧ s.low = 0 ∧ s.ch = 0 ∧ s.pt = 0) ∨ (1 ≤ s.lv ∧ s.lv ≤ 9 ∧ s.kd = 2 ∧ s.pt < s.step ∧ 1 ≤ s.low ∧ s.low ≤ 9999 ∧ 1 ≤ s.ch ∧ s.ch ≤ 63)
theorem StOk.rng {s : St} (h : StOk s) : 1 ≤ s.kd ∧ s.kd ≤ 4 ∧ 1 ≤ s.key ∧ s.key ≤ 9999 := by
  have := h.op
  simp only [opR, Bool.and_eq_true, Bool.or_eq_true, decide_eq_true_eq] at this
  omega
theorem StOk.belFr {s : St} (h : StOk s) : ∀ x ∈ s.bel, Fr x := by
  intro x hx
  have h1 := keysOk_all _ _ _ h.bel x hx
  have h2 := h.rng
  have h3 := h.val
  unfold Fr at h3 ⊢
  omega
theorem unp_size {t : ByteArray} (h : ∃ n, Unp t.data.toList n) : 1 ≤ t.size ∧ t.size ≤ 47 := by
  obtain ⟨n, hn⟩ := h
  have h1 := len_packT n hn.1
  rw [hn.2, ba_size] at h1
  exact ⟨by have := h1.1; omega, h1.2⟩
theorem nonempty_of {t : ByteArray} (h : t ≠ ⟨#[]⟩) : t.toList.isEmpty = false := by
  rw [ByteArray.toList_eq]
  cases hl : t.data.toList with
  | nil => exact absurd (ba_ext (b := ⟨#[]⟩) (by rw [hl])) h
  | cons _ _ => rfl
theorem StOk.spFr {s : St} (h : StOk s) : ∀ x ∈ s.sp, Fr x := by
  intro x hx
  have := h.sp x hx
  unfold Fr; omega
theorem nat_of {x : Int} (h : Fr x) : ∃ n : Nat, x = (n : Int) ∧ n ≤ 100000000000000000 := ⟨x.toNat, by have := h.1; omega, by have := h.2; omega⟩
theorem StOk.frKd {s : St} (h : StOk s) : Fr s.kd := by have := h.rng; unfold Fr; omega
theorem StOk.frKey {s : St} (h : StOk s) : Fr s.key := by have := h.rng; unfold Fr; omega
theorem StOk.frPg {s : St} (h : StOk s) : Fr s.pg := by have := h.pg; unfold Fr; omega
theorem StOk.i {s : St} (h : StOk s) : StI s := by
  have h2 := h.rng
  have h3 := h.pg
  have h4 := h.kl12
  have h5 := h.kl
  have h6 := h.bl
  have h7 := h.bl64
  have h8 := h.sp2
  have h9 := h.spl
  exact ⟨by unfold I64; omega, by unfold I64; omega, h.val.i, h.step.i, by unfold I64; omega, h.ver.i, h.laid.i, h.lv.i, h.low.i, h.ch.i, h.pt.i, fun x hx => (h.keys x hx).i, fun x hx => (h.vals x hx).i, fun x hx => (h.belFr x hx).i, fun x hx => (h.pts x hx).i, fun x hx => (h.spFr x hx).i, fun x hx => (h.sv x hx).i, by omega, by omega, by omega, by omega, by omega, by omega, h.swL⟩
set_option maxRecDepth 100000 in
set_option maxHeartbeats 1600000 in
theorem rightScan_yes (s : St) (kv vv bv pv xv yv : Value) (w : World) (hv : StV w s kv vv bv pv xv yv) (hok : StOk s) :
    Calls Tryz.prog 97 #[.agg #[.int .i64 s.kd, .int .i64 s.key, .int .i64 s.val, .int .i64 s.step, .int .i64 s.pg, kv, vv, bv, pv, .string s.sw, .int .i64 s.ver, xv, yv, .int .i64 s.laid, .int .i64 s.lv, .int .i64 s.low, .int .i64 s.ch, .int .i64 s.pt]] w fun e w' => e = .returned (.bool true) ∧ Below w.heap.size w w' := by
  by_cases hk4 : s.kd = 4
  case neg =>
    obtain ⟨ak, ck, rfl⟩ := hv.keys.len
    obtain ⟨av, cv, rfl⟩ := hv.vals.len
    obtain ⟨ab, cb, rfl⟩ := hv.bel.len
    obtain ⟨ap, cp, rfl⟩ := hv.pts.len
    obtain ⟨ax, cx, rfl⟩ := hv.sp.len
    obtain ⟨ay, cy, rfl⟩ := hv.sv.len
    rcases hok.seen with h | ⟨h1, h2, h3, h4⟩
    · exact absurd h hk4
    rw [h1, h2, h3, h4]
    have hkb : (s.kd == 4) = false := by simp [hk4]
    have hkb2 : (s.kd != 4) = true := by simp [hk4]
    have HB0 : Hid (∀ o, Below w.heap.size w (w.alloc o)) := fun o => (Below.refl _ _).alloc (Nat.le_refl _) o
    clear hv hok h1 h2 h3 h4
    go_enter Tryz.func97, Tryz.ntmps97
    go_wp2
    go_ret
    exact ⟨rfl, HB0.out _⟩
  obtain ⟨ak, ck, rfl⟩ := hv.keys.len
  obtain ⟨av, cv, rfl⟩ := hv.vals.len
  obtain ⟨ab, cb, rfl⟩ := hv.bel.len
  obtain ⟨ap, cp, rfl⟩ := hv.pts.len
  obtain ⟨ax, cx, rfl⟩ := hv.sp.len
  obtain ⟨ay, cy, rfl⟩ := hv.sv.len
  have HR := hideIt hv.bel
  have hkl := hok.kl
  have hk12 : (s.keys.length : Int) < 12 := by have := hok.kl12; omega
  have hbl := hok.bl
  have hb64 := hok.bl64
  have HB := hideIt hok.bel
  have hrng := hok.rng
  have hkey : s.key ≤ 9999 := by omega
  have hkey1 : 1 ≤ s.key := by omega
  have hval : s.val ≤ 100000000000000000 := hok.val.2
  obtain ⟨m, hm⟩ : ∃ m, s.bel.length = m := ⟨_, rfl⟩
  obtain ⟨q, hq⟩ : ∃ q, s.keys.length = q := ⟨_, rfl⟩
  rw [← hkl, ← hbl, hm, hq]
  rw [hq] at hk12
  rw [hm] at hb64 HR
  have HM := hideIt hm
  clear hkl hbl hok hv hm hq hrng
  rw [hk4]
  go_enter Tryz.func97, Tryz.ntmps97
  go_wp2
  go_loopw [3, 4] (fun t i wr => ∃ k d : Nat, k ≤ m ∧ i = .int .i64 k ∧ t = .int .i64 (lo (s.key + 1) s.bel k) ∧ wr = (w.alloc (.cells #[.int .i64 4, .int .i64 s.key, .int .i64 s.val, .int .i64 s.step, .int .i64 s.pg, .slice ak q ck, .slice av q cv, .slice ab m cb, .slice ap m cp, .string s.sw, .int .i64 s.ver, .slice ax s.sp.length cx, .slice ay s.sv.length cy, .int .i64 s.laid, .int .i64 s.lv, .int .i64 s.low, .int .i64 s.ch, .int .i64 s.pt] 92)).drewN d) (fun _ i _ => m - (intOf i).toNat)
  case atStart => exact ⟨0, 0, Nat.zero_le _, rfl, rfl, rfl⟩
  case round =>
    obtain ⟨k, d, hk, rfl, rfl, rfl⟩ := hrel
    by_cases hlt : k < m
    · obtain ⟨b1, o1, rfl, -, x1⟩ := HR.out.elem k hlt
      have y1 : ∀ p, (w.alloc p).cell? ⟨b1, o1 + k, none⟩ = some (.int .i64 (s.bel[k]?.getD 0)) := fun p => x1 _ ((Below.refl _ _).alloc (Nat.le_refl _) p)
      have hkk : (0 : Int) ≤ (k : Int) := by omega
      have hkl : (k : Int) < (m : Int) := by omega
      have hat := keysOk_at _ _ _ HB.out k (by rw [HM.out]; exact hlt)
      obtain ⟨bk, hbk⟩ : ∃ bk, s.bel[k]?.getD 0 = bk := ⟨_, rfl⟩
      obtain ⟨l, hl⟩ : ∃ l, lo (s.key + 1) s.bel k = l := ⟨_, rfl⟩
      have HL : Hid (lo (s.key + 1) s.bel (k + 1) = bk + 1) := by show s.bel[k]?.getD 0 + 1 = bk + 1; rw [hbk]
      rw [hbk] at y1 hat
      rw [hl] at hat ⊢
      have h1 : decide (bk < l) = false := by rw [decide_eq_false_iff_not]; omega
      have h2 : decide (s.val < bk) = false := by rw [decide_eq_false_iff_not]; omega
      have h3 : bk ≤ 100000000000000000 := by omega
      have h4 : -100 ≤ bk := by
        have := keysOk_all _ _ _ HB.out bk (by rw [← hbk]; exact mem_at (by rw [HM.out]; exact hlt))
        omega
      clear x1 hat hbk hl
      go_wp2
      go_quiet (fail)
      go_wp2
      go_roundw
      case rel => exact ⟨k + 1, _, by omega, by go_num, by rw [HL.out], rfl⟩
      case measure => simp [intOf]; omega
    · go_wp2
      go_ret
      refine ⟨rfl, ?_⟩
      have hb := (Below.refl w.heap.size w).alloc (Nat.le_refl _) (.cells #[.int .i64 4, .int .i64 s.key, .int .i64 s.val, .int .i64 s.step, .int .i64 s.pg, .slice ak q ck, .slice av q cv, .slice ab m cb, .slice ap m cp, .string s.sw, .int .i64 s.ver, .slice ax s.sp.length cx, .slice ay s.sv.length cy, .int .i64 s.laid, .int .i64 s.lv, .int .i64 s.low, .int .i64 s.ch, .int .i64 s.pt] 92)
      exact ⟨hb.os, hb.tape, hb.output, hb.size, hb.block⟩
set_option maxRecDepth 100000 in
set_option maxHeartbeats 1600000 in
theorem rightSeen_yes (s : St) (kv vv bv pv xv yv : Value) (w : World) (hv : StV w s kv vv bv pv xv yv) (hok : StOk s) :
    Calls Tryz.prog 98 #[.agg #[.int .i64 s.kd, .int .i64 s.key, .int .i64 s.val, .int .i64 s.step, .int .i64 s.pg, kv, vv, bv, pv, .string s.sw, .int .i64 s.ver, xv, yv, .int .i64 s.laid, .int .i64 s.lv, .int .i64 s.low, .int .i64 s.ch, .int .i64 s.pt]] w fun e w' => e = .returned (.bool true) ∧ Below w.heap.size w w' := by
  obtain ⟨ak, ck, rfl⟩ := hv.keys.len
  obtain ⟨av, cv, rfl⟩ := hv.vals.len
  obtain ⟨ab, cb, rfl⟩ := hv.bel.len
  obtain ⟨ap, cp, rfl⟩ := hv.pts.len
  obtain ⟨ax, cx, rfl⟩ := hv.sp.len
  obtain ⟨ay, cy, rfl⟩ := hv.sv.len
  have HB0 : Hid (∀ o, Below w.heap.size w (w.alloc o)) := fun o => (Below.refl _ _).alloc (Nat.le_refl _) o
  rcases hok.sw with ⟨h1, h2, h3⟩ | ⟨h1, h2⟩
  · rw [h1, h2, h3]
    clear hok hv h1 h2 h3
    go_enter Tryz.func98, Tryz.ntmps98
    go_wp2
    go_ret
    exact ⟨rfl, HB0.out _⟩
  · have hneb : s.sw.toList.isEmpty = false := nonempty_of h1
    clear hok hv h1
    rcases h2 with hk | hk
    all_goals
      rw [hk]
      clear hk
      go_enter Tryz.func98, Tryz.ntmps98
      go_wp2
      go_ret
      exact ⟨rfl, HB0.out _⟩
set_option maxRecDepth 100000 in
theorem isChild_any (n : Int) (w : World) : Calls Tryz.prog 93 #[.int .i64 n] w fun e w' => e = .returned (.bool (decide (1 ≤ n) && decide (n < 64))) ∧ w' = w := by
  by_cases h1 : 1 ≤ n
  · go_enter Tryz.func93, Tryz.ntmps93
    go_wp2
    go_ret
    refine ⟨ret_bool ?_, rfl⟩
    simp [h1]
  · have h2 : decide (1 ≤ n) = false := decide_eq_false h1
    go_enter Tryz.func93, Tryz.ntmps93
    go_wp2
    go_ret
    exact ⟨rfl, rfl⟩
set_option maxRecDepth 100000 in
set_option maxHeartbeats 1600000 in
theorem rightEntry_yes (s : St) (kv vv bv pv xv yv : Value) (w : World) (hv : StV w s kv vv bv pv xv yv) (hok : StOk s) :
    Calls Tryz.prog 100 #[.agg #[.int .i64 s.kd, .int .i64 s.key, .int .i64 s.val, .int .i64 s.step, .int .i64 s.pg, kv, vv, bv, pv, .string s.sw, .int .i64 s.ver, xv, yv, .int .i64 s.laid, .int .i64 s.lv, .int .i64 s.low, .int .i64 s.ch, .int .i64 s.pt]] w fun e w' => e = .returned (.bool true) ∧ Below w.heap.size w w' := by
  obtain ⟨ak, ck, rfl⟩ := hv.keys.len
  obtain ⟨av, cv, rfl⟩ := hv.vals.len
  obtain ⟨ab, cb, rfl⟩ := hv.bel.len
  obtain ⟨ap, cp, rfl⟩ := hv.pts.len
  obtain ⟨ax, cx, rfl⟩ := hv.sp.len
  obtain ⟨ay, cy, rfl⟩ := hv.sv.len
  have HB0 : Hid (∀ o, Below w.heap.size w (w.alloc o)) := fun o => (Below.refl _ _).alloc (Nat.le_refl _) o
  rcases hok.ent with ⟨h1, h2, h3, h4⟩ | ⟨h1, h2, h3, h4, h5, h6, h7, h8⟩
  · rw [h1, h2, h3, h4]
    clear hok hv h1 h2 h3 h4
    go_enter Tryz.func100, Tryz.ntmps100
    go_wp2
    go_ret
    exact ⟨rfl, HB0.out _⟩
  · rw [h3]
    have b1 : (s.lv == 0) = false := by simp; omega
    have b2 : decide (9 < s.lv) = false := by rw [decide_eq_false_iff_not]; omega
    have b3 : decide (s.step ≤ s.pt) = false := by rw [decide_eq_false_iff_not]; omega
    have hc : (decide (1 ≤ s.ch) && decide (s.ch < 64)) = true := by simp; omega
    have HC := hideIt hc
    clear hok hv h1 h2 h3 h4 hc
    go_enter Tryz.func100, Tryz.ntmps100
    go_wp2_with (refine (isChild_any _ _).mono ?_; rintro e w1 ⟨rfl, rfl⟩; rw [HC.out])
    go_ret
    exact ⟨rfl, HB0.out _⟩
set_option maxRecDepth 100000 in
set_option maxHeartbeats 1600000 in
theorem rightSpares_yes (s : St) (kv vv bv pv xv yv : Value) (w : World) (hv : StV w s kv vv bv pv xv yv) (hok : StOk s) :
    Calls Tryz.prog 99 #[.agg #[.int .i64 s.kd, .int .i64 s.key, .int .i64 s.val, .int .i64 s.step, .int .i64 s.pg, kv, vv, bv, pv, .string s.sw, .int .i64 s.ver, xv, yv, .int .i64 s.laid, .int .i64 s.lv, .int .i64 s.low, .int .i64 s.ch, .int .i64 s.pt]] w fun e w' => e = .returned (.bool true) ∧ Below w.heap.size w w' := by
  obtain ⟨ak, ck, rfl⟩ := hv.keys.len
  obtain ⟨av, cv, rfl⟩ := hv.vals.len
  obtain ⟨ab, cb, rfl⟩ := hv.bel.len
  obtain ⟨ap, cp, rfl⟩ := hv.pts.len
  obtain ⟨ax, cx, rfl⟩ := hv.sp.len
  obtain ⟨ay, cy, rfl⟩ := hv.sv.len
  have HB0 : Hid (∀ o, Below w.heap.size w (w.alloc o)) := fun o => (Below.refl _ _).alloc (Nat.le_refl _) o
  have HR := hideIt hv.sp
  have HR2 := hideIt hv.sv
  have HS := hideIt hok.sp
  have HV := hideIt hok.sv
  have hk := hok.spk
  have hl2 := hok.sp2
  have hspl := hok.spl
  have hlaid : s.laid ≤ (s.sp.length : Int) := hok.laidL
  obtain ⟨m, hm⟩ : ∃ m, s.sp.length = m := ⟨_, rfl⟩
  have HM := hideIt hm
  have HM2 : Hid (s.sv.length = m) := by unfold Hid; omega
  rw [← hspl, hm] at HR2 ⊢
  rw [hm] at HR hl2 hlaid
  have hkz : s.kd = 2 ∨ m = 0 := by
    rcases hk with h | h
    · exact Or.inl h
    · right; rw [← hm, h]; rfl
  have b3 : decide ((2 : Int) < (m : Int)) = false := by rw [decide_eq_false_iff_not]; omega
  have hl2i : (m : Int) ≤ 2 := by omega
  have b2 : decide ((m : Int) < s.laid) = false := by rw [decide_eq_false_iff_not]; omega
  have HB0' : Hid (∀ o d, Below w.heap.size w ((w.alloc o).drewN d)) := fun o d => by have hb := (Below.refl w.heap.size w).alloc (Nat.le_refl _) o; exact ⟨hb.os, hb.tape, hb.output, hb.size, hb.block⟩
  clear hspl hm hv hok hk HB0
  have hcs : (s.kd != 2) = false ∨ ((s.kd != 2) = true ∧ m = 0) := by
    by_cases h2 : s.kd = 2
    · left; rw [h2]; rfl
    · right
      rcases hkz with h | h
      · exact absurd h h2
      · exact ⟨by simp [h2], h⟩
  clear hkz
  rcases hcs with hkb | ⟨hkb, rfl⟩
  case inr =>
    go_enter Tryz.func99, Tryz.ntmps99
    have hlz : decide ((0 : Int) < s.laid) = false := b2
    have hlz2 : s.laid ≤ 0 := hlaid
    rw [show ((0 : Nat) : Int) = 0 from rfl] at *
    go_wp2
    go_loopw [3] (fun i wr => i = .int .i64 0 ∧ wr = w.alloc (.cells #[.int .i64 s.kd, .int .i64 s.key, .int .i64 s.val, .int .i64 s.step, .int .i64 s.pg, .slice ak s.keys.length ck, .slice av s.vals.length cv, .slice ab s.bel.length cb, .slice ap s.pts.length cp, .string s.sw, .int .i64 s.ver, .slice ax 0 cx, .slice ay 0 cy, .int .i64 s.laid, .int .i64 s.lv, .int .i64 s.low, .int .i64 s.ch, .int .i64 s.pt] 92)) (fun _ _ => 0)
    case atStart => exact ⟨rfl, rfl⟩
    case round =>
      obtain ⟨rfl, rfl⟩ := hrel
      go_wp2
      go_ret
      exact ⟨rfl, HB0'.out _ 0⟩
  case inl =>
    go_enter Tryz.func99, Tryz.ntmps99
    go_wp2
    go_loopw [3] (fun i wr => ∃ k d : Nat, k ≤ m ∧ i = .int .i64 k ∧ wr = (w.alloc (.cells #[.int .i64 s.kd, .int .i64 s.key, .int .i64 s.val, .int .i64 s.step, .int .i64 s.pg, .slice ak s.keys.length ck, .slice av s.vals.length cv, .slice ab s.bel.length cb, .slice ap s.pts.length cp, .string s.sw, .int .i64 s.ver, .slice ax m cx, .slice ay m cy, .int .i64 s.laid, .int .i64 s.lv, .int .i64 s.low, .int .i64 s.ch, .int .i64 s.pt] 92)).drewN d) (fun i _ => m - (intOf i).toNat)
    case atStart => exact ⟨0, 0, Nat.zero_le _, rfl, rfl⟩
    case round =>
      obtain ⟨k, d, hk, rfl, rfl⟩ := hrel
      by_cases hlt : k < m
      · obtain ⟨b1, o1, rfl, -, x1⟩ := HR.out.elem k hlt
        obtain ⟨b2, o2, rfl, -, x2⟩ := HR2.out.elem k hlt
        have y1 : ∀ p, (w.alloc p).cell? ⟨b1, o1 + k, none⟩ = some (.int .i64 (s.sp[k]?.getD 0)) := fun p => x1 _ ((Below.refl _ _).alloc (Nat.le_refl _) p)
        have y2 : ∀ p, (w.alloc p).cell? ⟨b2, o2 + k, none⟩ = some (.int .i64 (s.sv[k]?.getD 0)) := fun p => x2 _ ((Below.refl _ _).alloc (Nat.le_refl _) p)
        have hkk : (0 : Int) ≤ (k : Int) := by omega
        have hkl : (k : Int) < (m : Int) := by omega
        have h1 := HS.out _ (mem_at (xs := s.sp) (k := k) (by rw [HM.out]; exact hlt))
        have h2 := HV.out _ (mem_at (xs := s.sv) (k := k) (by rw [HM2.out]; exact hlt))
        obtain ⟨a, ha⟩ : ∃ a, s.sp[k]?.getD 0 = a := ⟨_, rfl⟩
        obtain ⟨b, hb⟩ : ∃ a, s.sv[k]?.getD 0 = a := ⟨_, rfl⟩
        rw [ha] at y1 h1
        rw [hb] at y2 h2
        have hc : (decide (1 ≤ a) && decide (a < 64)) = true := by simp; omega
        have HC := hideIt hc
        have hbn : (b == 9223372036854775807) = false := by have := h2.2; simp; omega
        have HCH := hideIt (fun W => isChild_any a W)
        clear x1 x2 ha hb hc h1 h2
        go_wp2_with (refine (HCH.out _).mono ?_; rintro e w1 ⟨rfl, rfl⟩; rw [HC.out])
        go_roundw
        case rel => exact ⟨k + 1, _, by omega, by go_num, rfl⟩
        case measure => simp [intOf]; omega
      · go_wp2
        go_ret
        exact ⟨rfl, HB0'.out _ _⟩
end Go.Proofs.YtajobgmnmbnhiaaGreatDoor.Sap
