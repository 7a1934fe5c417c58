/- WHAT IS PROVED HERE: tree's reader gives back a number, and a list of numbers, where they stand in a frame. Conditions: the numbers are 0 to 10^17, the lists short, the frame no longer than a million bytes. -/
import Derived.Test.YtajobgmnmbnhiaaDoorT2
import Derived.BigQuiet
import Derived.Lib.BufferOwn
import Derived.WalkSmall
namespace Go.Proofs.YtajobgmnmbnhiaaDoor.Sap
open Go.RowKit

theorem dec_cases (n : Nat) : ∃ xs : List UInt8, ∃ c : UInt8, Lib.decDigits n = xs ++ [c] ∧ 48 ≤ c.toNat ∧ c.toNat ≤ 57 ∧ c.toNat = 48 + n % 10 ∧ (n < 10 → xs = []) ∧ (10 ≤ n → xs = Lib.decDigits (n / 10)) := by
  have hm : n % 10 < 10 := Nat.mod_lt _ (by omega)
  have hc : (UInt8.ofNat (48 + n % 10)).toNat = 48 + n % 10 := by
    rw [UInt8.toNat_ofNat']; omega
  by_cases h : n < 10
  · refine ⟨[], UInt8.ofNat (48 + n % 10), ?_, by omega, by omega, hc, fun _ => rfl, fun h2 => by omega⟩
    rw [decDigits_small n h, Nat.mod_eq_of_lt h]; rfl
  · exact ⟨Lib.decDigits (n / 10), UInt8.ofNat (48 + n % 10), decDigits_big n h, by omega, by omega, hc, fun h2 => by omega, fun _ => rfl⟩

theorem wth_dec (n : Nat) : wth (Lib.decDigits n) = n ∧ (∀ c ∈ Lib.decDigits n, 48 ≤ c.toNat ∧ c.toNat ≤ 57) ∧ 1 ≤ (Lib.decDigits n).length := by
  induction n using Nat.strongRecOn with
  | _ n ih =>
    obtain ⟨xs, c, h1, h2, h3, h4, h5, h6⟩ := dec_cases n
    rw [h1, wth_snoc]
    by_cases h : n < 10
    · rw [h5 h]
      refine ⟨by rw [show wth ([] : List UInt8) = 0 from rfl]; omega, fun x hx => ?_, by simp⟩
      simp at hx; subst hx; exact ⟨h2, h3⟩
    · obtain ⟨i1, i2, i3⟩ := ih (n / 10) (by omega)
      rw [h6 (by omega)]
      refine ⟨by rw [i1]; omega, fun x hx => ?_, by simp⟩
      rcases List.mem_append.1 hx with hx | hx
      · exact i2 x hx
      · simp at hx; subst hx; exact ⟨h2, h3⟩

theorem wth_take_aux (xs : List UInt8) (d : Nat) : ∀ k : Nat, xs.length ≤ k + d → wth (xs.take k) ≤ wth xs := by
  induction d with
  | zero => intro k h; rw [List.take_of_length_le (by omega)]; exact Nat.le_refl _
  | succ d ih =>
    intro k hd
    by_cases h : xs.length ≤ k
    · rw [List.take_of_length_le h]; exact Nat.le_refl _
    · have ih := ih (k + 1) (by omega)
      have e : xs.take (k + 1) = xs.take k ++ [xs[k]'(by omega)] := by rw [List.take_add_one, List.getElem?_eq_getElem (by omega)]; rfl
      rw [e, wth_snoc] at ih
      omega
theorem wth_take_le (xs : List UInt8) (k : Nat) : wth (xs.take k) ≤ wth xs := wth_take_aux xs xs.length k (by omega)

/-- The number in a block's second cell. -/
def posOf (w : World) (g : Nat) : Nat := match w.cell? ⟨g, 1, none⟩ with | some (.int _ q) => q.toNat | _ => 0
/-- Block g is a reader of s that stands at a. -/
def RdR (w : World) (g : Nat) (s : ByteArray) (a : Nat) : Prop := w.heap[g]? = some (.cells #[.string s, .int .i64 a, .bool false] 123 (0, 0))

theorem RdR.set {w : World} {g : Nat} {s : ByteArray} {a b : Nat} (h : RdR w g s a) : RdR (w.setCell ⟨g, 1, none⟩ (.int .i64 b)) g s b := by
  unfold RdR at h ⊢
  rw [Go.Joins.block_setCell h]; rfl

theorem RdR.pos {w : World} {g : Nat} {s : ByteArray} {a : Nat} (h : RdR w g s a) : posOf w g = a := by
  unfold posOf; rw [cellOf h 1 _ rfl]; simp
theorem RdR.cells {w : World} {g : Nat} {s : ByteArray} {a : Nat} (h : RdR w g s a) : (w.cell? ⟨g, 0, none⟩ = some (.string s) ∧ w.cell? ⟨g, 1, none⟩ = some (.int .i64 a) ∧ w.cell? ⟨g, 2, none⟩ = some (.bool false)) ∧ (w.frozen? ⟨g, 1, none⟩ = false ∧ w.frozen? ⟨g, 2, none⟩ = false) :=
  ⟨⟨cellOf h 0 _ rfl, cellOf h 1 _ rfl, cellOf h 2 _ rfl⟩, ⟨Go.Joins.unfrozen_of_block h _, Go.Joins.unfrozen_of_block h _⟩⟩
theorem RdR.step {w : World} {g : Nat} {s : ByteArray} {p : Nat} (h : RdR w g s p) (d : Nat) : RdR ((w.drewN d).setCell ⟨g, 1, none⟩ (.int .i64 ((p : Int) + 1))) g s (p + 1) := by
  have h2 : RdR (w.drewN d) g s p := h
  have := h2.set (b := p + 1)
  rw [show (((p + 1 : Nat)) : Int) = (p : Int) + 1 by omega] at this
  exact this
theorem gr_step {w w' : World} {g : Nat} (h : w.grownBy w' (some g)) (d i : Nat) (v : Value) : w.grownBy ((w'.drewN d).setCell ⟨g, i, none⟩ v) (some g) :=
  Lib.grownBy_setB (w := w'.drewN d) ⟨h.os, h.tape, h.output, h.size, h.block⟩ i v
theorem at_of {s : ByteArray} {a j : Nat} {D r : List UInt8} (h : s.data.toList.drop a = D ++ r) (hj : j < (D ++ r).length) : ∃ hs : a + j < s.size, s[a + j] = (D ++ r)[j] := by
  have hl := congrArg List.length h
  rw [List.length_drop, ba_size] at hl
  refine ⟨by omega, ?_⟩
  have e : (s.data.toList.drop a)[j]? = some (D ++ r)[j] := by rw [h]; exact List.getElem?_eq_getElem hj
  rw [List.getElem?_drop] at e
  have e2 : s.data.toList[a + j]? = some s[a + j] := by
    rw [Array.getElem?_toList, Array.getElem?_eq_getElem (by have : s.data.size = s.size := rfl; omega)]; rfl
  rw [e2] at e
  exact Option.some.inj e

set_option maxRecDepth 100000 in
set_option maxHeartbeats 1600000 in
theorem rnum_any (g : Nat) (s : ByteArray) (a : Nat) (n : Nat) (rest : List UInt8) (w : World) (hg : RdR w g s a) (hs : s.data.toList.drop a = nb n ++ rest) (hn : n ≤ 100000000000000000) (hsz : s.size ≤ 1000000) :
    Calls Tryd.prog 72 #[.pointer (some ⟨g, 0, none⟩)] w fun e w' => e = .returned (.int .i64 n) ∧ RdR w' g s (a + (nb n).length) ∧ w.grownBy w' (some g) := by
  obtain ⟨D, hD⟩ : ∃ D, Lib.decDigits n = D := ⟨_, rfl⟩
  have hnb : nb n = D ++ [44] := by unfold nb; rw [Lib.itoa_nonneg, hD]
  rw [hnb] at hs ⊢
  obtain ⟨d1, d2, d3⟩ := wth_dec n
  rw [hD] at d1 d2 d3
  have HD1 := hideIt d1
  have HD2 := hideIt d2
  have HD3 := hideIt d3
  have HS := hideIt hs
  have HG := hideIt hg
  have hl := congrArg List.length hs
  simp only [List.length_append, List.length_cons, List.length_nil, List.length_drop, ba_size] at hl
  have HL : Hid (a + D.length + 1 ≤ s.size) := by unfold Hid; omega
  have q1 := cellOf hg 1 _ rfl
  clear hs hg hl d1 d2 d3 hnb hD
  go_enter Tryd.func72, Tryd.ntmps72
  go_wp2
  clear q1
  go_loopw [3] (fun t wr => ∃ p : Nat, a ≤ p ∧ Hid (p ≤ a + D.length) ∧ t = .int .i64 (wth (D.take (p - a))) ∧ Hid (RdR wr g s p) ∧ Hid (w.grownBy wr (some g))) (fun t wr => a + D.length + 1 - posOf wr g)
  case atStart => exact ⟨a, Nat.le_refl _, Nat.le_add_right _ _, by simp [wth, wthFrom], HG.out, World.grownBy.refl _ _⟩
  case round =>
    obtain ⟨p, hap, hpl, rfl, hR, hgr⟩ := hrel
    obtain ⟨⟨c0, c1, c2⟩, ⟨f1, f2⟩⟩ := hR.out.cells
    have hps : p < s.size := by have := HL.out; have := hpl.out; omega
    have hpi : (p : Int) < (s.size : Int) := by omega
    have hp0 : (0 : Int) ≤ (p : Int) := by omega
    have hb : (s[p].toNat : Int) < 256 := by have := UInt8.toNat_lt s[p]; omega
    have hb0 : (0 : Int) ≤ (s[p].toNat : Int) := by omega
    by_cases hlt : p < a + D.length
    · have HE : Hid (∃ h : p - a < D.length, s[p] = D[p - a]) := by
        obtain ⟨h1, h2⟩ := at_of (j := p - a) (by have := HS.out; rw [List.append_assoc] at this; exact this) (by simp; omega)
        refine ⟨by omega, ?_⟩
        simp only [show a + (p - a) = p by omega] at h2
        rw [h2, List.getElem_append_left (by omega)]
      have HT : Hid (wth (D.take (p + 1 - a)) = 10 * wth (D.take (p - a)) + s[p].toNat % 16 % 10) := by
        obtain ⟨h1, h2⟩ := HE.out
        unfold Hid
        rw [show p + 1 - a = (p - a) + 1 by omega, List.take_add_one, List.getElem?_eq_getElem h1, h2]
        exact wth_snoc _ _
      have hd : 48 ≤ s[p].toNat ∧ s[p].toNat ≤ 57 := by
        obtain ⟨h1, h2⟩ := HE.out
        rw [h2]; exact HD2.out _ (List.getElem_mem _)
      have hd1 : (48 : Int) ≤ (s[p].toNat : Int) := by omega
      have hd2 : (s[p].toNat : Int) ≤ 57 := by omega
      have hw : (wth (D.take (p - a)) : Int) ≤ 100000000000000000 := by
        have h1 := wth_take_le D (p - a)
        rw [HD1.out] at h1; omega
      have hw0 : (0 : Int) ≤ (wth (D.take (p - a)) : Int) := by omega
      clear hd
      go_wp2
      go_quiet (fail)
      go_wp2
      go_quiet (fail)
      go_wp2
      refine ⟨⟨p + 1, by omega, by unfold Hid; omega, ?_, RdR.step hR.out _, gr_step hgr.out _ _ _⟩, ?_⟩
      · rw [HT.out]; congr 1; omega
      · rw [(RdR.step hR.out _).pos, hR.out.pos]; omega
    · have hpe : p = a + D.length := by have := hpl.out; omega
      have HW : Hid (wth (D.take (p - a)) = n) := by unfold Hid; rw [hpe, Nat.add_sub_cancel_left, List.take_length, HD1.out]
      have h44 : s[p].toNat = 44 := by
        obtain ⟨h1, h2⟩ := at_of (j := D.length) (r := [44] ++ rest) (by have := HS.out; rw [List.append_assoc] at this; exact this) (by simp)
        have h3 : s[p] = s[a + D.length] := by congr 1
        rw [h3, h2, List.getElem_append_right (by omega)]
        simp
      have h45 : (s[p].toNat : Int) = 44 := by omega
      have hlow : (s[p].toNat : Int) < 48 := by omega
      have hne : ((p : Int) == (a : Int)) = false := by have := HD3.out; simp; omega
      have hb44 : ((s[p].toNat : Int) != 44) = false := by rw [h45]; decide
      have hdf : decide ((48 : Int) ≤ (s[p].toNat : Int)) = false := by rw [decide_eq_false_iff_not]; omega
      have hdg : decide ((s.size : Int) ≤ (p : Int)) = false := by rw [decide_eq_false_iff_not]; omega
      have HPE := hideIt hpe
      clear h44 h45 hlt hb hb0 hpe
      go_wp2
      go_quiet (fail)
      go_wp2
      go_quiet (fail)
      go_wp2
      go_ret
      refine ⟨by rw [HW.out]; rfl, ?_, gr_step hgr.out _ _ _⟩
      have e : a + (D ++ [44]).length = p + 1 := by rw [List.length_append, HPE.out]; rfl
      rw [e]
      exact RdR.step hR.out _
end Go.Proofs.YtajobgmnmbnhiaaDoor.Sap
