/- WHAT IS PROVED HERE: saplingkeep's stands: over pages that are a tree, it answers true. Conditions: every page in use says a node; the nodes of the tree are what the pages say. -/
import Derived.Test.YtajobgmnmbnhiaaDoorXJ3Q2
import Derived.Test.YtajobgmnmbnhiaaDoorXXUXQ
import Derived.Test.YtajobgmnmbnhiaaDoorXXRXI
import Derived.Test.YtajobgmnmbnhiaaDoorXXG2XY
import Derived.Test.YtajobgmnmbnhiaaDoorXXZQ5
namespace Go.Proofs.YtajobgmnmbnhiaaDoor.Sap
open Go.RowKit

theorem fit_ks {n : Nd} {x : Int} (h : ∀ k ∈ n.ks, x ≤ k) : n.ks = [] ∨ x ≤ n.ks[0]?.getD 0 := by
  cases hk : n.ks with
  | nil => exact Or.inl rfl
  | cons a r => exact Or.inr (h a (by rw [hk]; simp))
theorem link_fit {t : Tre} (h : t.Ok) {p : Nat} (hp : t.inn p) : (t.nd p).lk = -1 ∨ ∃ q : Nat, (t.nd p).lk = (q : Int) ∧ t.inn q ∧ (t.nd q).lv = (t.nd p).lv ∧ (t.nd p).hi < (t.nd q).hi ∧ ((t.nd q).ks = [] ∨ (t.nd p).hi ≤ (t.nd q).ks[0]?.getD 0) := by
  by_cases hh : (t.nd p).hi = 10000
  · left
    have h1 := h.rt p hp
    simp only [rightB, Bool.and_eq_true] at h1
    have h2 := h1.2.2.1
    unfold endOk at h2
    rw [if_pos hh] at h2
    exact of_decide_eq_true h2
  · obtain ⟨q, h1, h2, h3, h4⟩ := h.lnk p hp hh
    refine Or.inr ⟨q, h1, h2, h4, ?_, fit_ks fun k hk => by rw [← h3]; exact h.ks q h2 k hk⟩
    rw [← h3]; exact (h.lo q h2).2
theorem child_fit {t : Tre} (h : t.Ok) {p : Nat} (hp : t.inn p) (hl : 0 < (t.nd p).lv) {key v : Int} (he : (key, v) ∈ ent (t.nd p)) : ∃ q : Nat, v = (q : Int) ∧ t.inn q ∧ (t.nd q).lv = (t.nd p).lv - 1 ∧ key < (t.nd q).hi ∧ ((t.nd q).ks = [] ∨ key ≤ (t.nd q).ks[0]?.getD 0) := by
  obtain ⟨q, h1, h2, h3, h4⟩ := h.chd p hp hl _ he
  have h3' : t.low q = key := h3
  refine ⟨q, h1, h2, by omega, ?_, fit_ks fun k hk => by rw [← h3']; exact h.ks q h2 k hk⟩
  rw [← h3']; exact (h.lo q h2).2

theorem leaf_first {t : Tre} (h : t.Ok) : ∃ (p : Nat) (ps : List Nat), (t.nd p).lv = 0 ∧ LvR t p ps := by
  have key : ∀ (n : Nat) (p : Nat) (ps : List Nat), LvR t p ps → (t.nd p).lv.toNat = n → ∃ (p : Nat) (ps : List Nat), (t.nd p).lv = 0 ∧ LvR t p ps := by
    intro n
    induction n using Nat.strongRecOn with
    | ind n ih =>
      intro p ps L hn
      have h0 := (right_bd _ (h.rt p L.inn)).1
      by_cases hl : 0 < (t.nd p).lv
      · obtain ⟨c, qs, -, h2, h3⟩ := L.down h hl
        have hc := (right_bd _ (h.rt c h3.inn)).1
        exact ih _ (by omega) c qs h3 rfl
      · exact ⟨p, ps, by omega, L⟩
  exact key _ 0 [0] (LvR.first h) rfl

/-- How many pages are marked. -/
def cntL (bn : List Bool) : Nat := sumN (fun q => if bn[q]? = some true then 1 else 0) 64
def cntB (gb : Nat) (w : World) : Nat := sumN (fun q => match w.cell? ⟨gb, q, none⟩ with | some (.bool true) => 1 | _ => 0) 64
theorem sumN_le {f : Nat → Nat} {n : Nat} (h : ∀ q, f q ≤ 1) : sumN f n ≤ n := by
  induction n with
  | zero => exact Nat.le_refl _
  | succ n ih => unfold sumN; have := h n; omega
theorem cntL_le (bn : List Bool) : cntL bn ≤ 64 := sumN_le fun q => by split <;> omega
theorem cntL_set {bn : List Bool} {p : Nat} (hl : bn.length = 64) (hp : p < 64) (hb : bn[p]? = some false) : cntL (bn.set p true) = cntL bn + 1 := by
  have h1 := sumN_upd (fun q => if bn[q]? = some true then 1 else 0) p 1 64 hp
  have h2 : cntL (bn.set p true) = sumN (fun q => if q = p then 1 else if bn[q]? = some true then 1 else 0) 64 := by
    unfold cntL
    refine sumN_congr fun q _ => ?_
    by_cases e : q = p
    · subst e
      rw [List.getElem?_set_self (by omega), if_pos rfl, if_pos rfl]
    · rw [List.getElem?_set_ne (Ne.symm e), if_neg e]
  have h3 : (if bn[p]? = some true then 1 else 0 : Nat) = 0 := by rw [hb, if_neg (by decide)]
  unfold cntL at h2 ⊢
  rw [h3] at h1
  omega
theorem cntB_eq {gb : Nat} {w : World} {bn : List Bool} (hl : bn.length = 64) (h : ∀ (q : Nat) (b : Bool), bn[q]? = some b → w.cell? ⟨gb, q, none⟩ = some (.bool b)) : cntB gb w = cntL bn := by
  unfold cntB cntL
  refine sumN_congr fun q hq => ?_
  obtain ⟨b, hb⟩ : ∃ b, bn[q]? = some b := ⟨_, List.getElem?_eq_getElem (by omega)⟩
  rw [h q b hb, hb]
  cases b <;> rfl
theorem ownsRow_cap {w : World} {B : Nat} {e : TypeId} {z g n cap : Nat} {xs : List Value} (h : w.ownsRow B e z (.slice (some ⟨g, 0, none⟩) n cap) n xs) : n ≤ cap := by
  rcases h.2 with ⟨h1, -⟩ | ⟨g', cap', cur, h1, -, -, h2, -⟩
  · cases h1
  · cases h1; exact h2
def lenOfS (v : Value) : Nat := match v with | .slice _ l _ => l | _ => 0
theorem natI_take (td : List Nat) (n : Nat) : (natI td).take n = natI (td.take n) := by unfold natI; rw [List.map_take]
theorem natI_snoc (td : List Nat) (q : Nat) : ints (natI (td ++ [q])) = ints (natI td) ++ [.int .i64 q] := by unfold natI ints; simp

set_option maxRecDepth 100000 in
set_option maxHeartbeats 6400000 in
theorem stands_yes (gw tg tc ug uc : Nat) (T : List ByteArray) (U : List Bool) (t : Tre) (w : World) (ht : t.Ok) (hul : U.length = 64) (hsay : ∀ p, t.inn p → Says T U p (t.nd p)) (hus : ∀ p : Nat, U[p]? = some true → ∃ n, Says T U p n) (h : PgR gw tg tc ug uc T U w) :
    Calls Tryd.prog 84 #[.pointer (some ⟨gw, 0, none⟩)] w fun e w' => e = .returned (.bool true) ∧ Below w.heap.size w w' := by
  obtain ⟨i0, hi0, hz0, hz1, hz2⟩ := info_parts infoInt
  have HP := hideIt h
  have HS := hideIt hsay
  have HT := hideIt ht
  have HUL := hideIt hul
  have HUS := hideIt hus
  have hmk : ∀ W, (Instr.makeSlice 53 (.int .i64 64) (.int .i64 64)).run Tryd.prog W = .ok (.slice (some ⟨W.heap.size, 0, none⟩) 64 64) (W.alloc (.cells (bools (List.replicate 64 false)).toArray 4)) := fun _ => by kernel_rfl
  have HMK := hideIt hmk
  clear h hsay ht hul hus hmk
  go_enter Tryd.func84, Tryd.ntmps84
  go_wp2
  go_loopw [3] (fun vp wr => ∃ p : Nat, vp = .int .i64 p ∧ p ≤ 64 ∧ Hid (Below w.heap.size w wr)) (fun vp _ => 64 - (intOf vp).toNat)
  case atStart => exact ⟨0, rfl, by omega, Below.refl _ _⟩
  case round =>
    obtain ⟨p, rfl, hp, hB⟩ := hrel
    have hP := HP.out.below hB.out
    have HPW := hideIt hP
    obtain ⟨c0, c1, c2⟩ := hP
    have hgl : gw < wr.heap.size := lt_of_cell c1
    have hp0 : (0 : Int) ≤ (p : Int) := by omega
    by_cases hlt : p < 64
    · have hp1 : (p : Int) < 64 := by omega
      obtain ⟨tx, b, a1, a2, a3, a4⟩ := c2 p hlt
      clear c0 c2 a3
      cases b with
      | true =>
        obtain ⟨n, hn⟩ := HUS.out p a2
        have CS := hideIt (says_yes gw tg tc ug uc p T U n wr HPW.out hn)
        clear hn a1 a2 a4
        go_wp2_with fail
        refine CS.out.mono ?_
        rintro e w1 ⟨kv1, vv1, rfl, hM1⟩
        obtain ⟨ka, kc, rfl⟩ := As.form0 (hM1.get (i := 0) rfl)
        obtain ⟨va, vc, rfl⟩ := As.form0 (hM1.get (i := 1) rfl)
        have HB2 := hideIt (step hB.out (hM1.alloc #[.int .i64 n.lv, .int .i64 n.lk, .int .i64 n.hi, .slice ka n.ks.length kc, .slice va n.vs.length vc] 24).bl)
        obtain ⟨W, hW⟩ : ∃ W, w1.alloc (.cells #[.int .i64 n.lv, .int .i64 n.lk, .int .i64 n.hi, .slice ka n.ks.length kc, .slice va n.vs.length vc] 24) = W := ⟨_, rfl⟩
        rw [hW] at HB2
        have HW := hideIt hW
        clear c1 hgl
        obtain ⟨c0, c1, c2⟩ := HP.out.below HB2.out
        obtain ⟨tx, b, a1, a2, a3, a4⟩ := c2 p hlt
        clear CS hM1 hW c0 c2 a3
        go_upto_region 5 with fail
        rw [HW.out]
        have hgl : gw < W.heap.size := lt_of_cell c1
        have hugl : ug < W.heap.size := lt_of_cell a4
        clear HW a1 a2
        cases b
        all_goals
          go_wp2
          go_roundw
          case rel => exact ⟨p + 1, by go_num, by omega, HB2.out⟩
          case measure => simp [intOf]; omega
      | false =>
        have CS := hideIt (says_no gw tg tc ug uc p T U wr HPW.out hlt a2)
        have HA2 := hideIt a2
        clear a1 a2 a4
        go_wp2_with fail
        refine CS.out.mono ?_
        rintro e w1 ⟨rfl, hb1⟩
        have HB2 := hideIt (step hB.out (step hb1 ((Below.refl w1.heap.size w1).alloc (Nat.le_refl _) (.cells #[.int .i64 0, .int .i64 0, .int .i64 0, .slice none 0 0, .slice none 0 0] 24))))
        obtain ⟨W, hW⟩ : ∃ W, w1.alloc (.cells #[.int .i64 0, .int .i64 0, .int .i64 0, .slice none 0 0, .slice none 0 0] 24) = W := ⟨_, rfl⟩
        rw [hW] at HB2
        have HW := hideIt hW
        clear c1 hgl
        obtain ⟨c0, c1, c2⟩ := HP.out.below HB2.out
        obtain ⟨tx, b, a1, a2, a3, a4⟩ := c2 p hlt
        have hbf : b = false := by have := HA2.out; rw [a2] at this; exact Option.some.inj this
        subst hbf
        clear CS hb1 hW c0 c2 a3 HA2
        go_upto_region 5 with fail
        rw [HW.out]
        have hgl : gw < W.heap.size := lt_of_cell c1
        have hugl : ug < W.heap.size := lt_of_cell a4
        clear HW a1 a2
        go_wp2
        go_roundw
        case rel => exact ⟨p + 1, by go_num, by omega, HB2.out⟩
        case measure => simp [intOf]; omega
    · obtain rfl : p = 64 := by omega
      have CS := hideIt (says_yes gw tg tc ug uc 0 T U (t.nd 0) wr HPW.out (HS.out 0 HT.out.r0))
      have hh0 := HT.out.h0
      obtain ⟨n, hn⟩ : ∃ n, t.nd 0 = n := ⟨_, rfl⟩
      rw [hn] at CS hh0
      have HH0 := hideIt hh0
      clear c0 c2 hn hh0
      rw [show ((64 : Nat) : Int) = 64 from rfl]
      go_wp2_with fail
      refine CS.out.mono ?_
      rintro e w1 ⟨kv1, vv1, rfl, hM1⟩
      obtain ⟨ka, kc, rfl⟩ := As.form0 (hM1.get (i := 0) rfl)
      obtain ⟨va, vc, rfl⟩ := As.form0 (hM1.get (i := 1) rfl)
      have A1 := hM1.alloc #[.int .i64 n.lv, .int .i64 n.lk, .int .i64 n.hi, .slice ka n.ks.length kc, .slice va n.vs.length vc] 24
      have HB2 := hideIt (step hB.out A1.bl)
      obtain ⟨gn, hgn⟩ : ∃ g, w1.heap.size = g := ⟨_, rfl⟩
      obtain ⟨W, hW⟩ : ∃ W, w1.alloc (.cells #[.int .i64 n.lv, .int .i64 n.lk, .int .i64 n.hi, .slice ka n.ks.length kc, .slice va n.vs.length vc] 24) = W := ⟨_, rfl⟩
      rw [hW] at HB2 A1
      rw [hgn] at A1
      have HW := hideIt hW
      have HGN := hideIt hgn
      have n2 := A1.cell (i := 0) rfl 2 (.int .i64 n.hi) rfl
      rw [HH0.out] at n2
      have hgnl : gn < W.heap.size := lt_of_cell n2
      clear CS hM1 hW A1 hgn hgl c1
      go_upto_region 8 with fail
      rw [HW.out, HGN.out]
      clear HW HGN
      have hmk := HMK.out
      have A2 : Hid (M w w.heap.size ((W.alloc (.cells (bools (List.replicate 64 false)).toArray 4)).alloc (.cells #[.int .i64 0] 3)) [.row 3 1 (.slice (some ⟨(W.alloc (.cells (bools (List.replicate 64 false)).toArray 4)).heap.size, 0, none⟩) 1 1) [0].length (ints (natI [0])), .row 4 1 (.slice (some ⟨W.heap.size, 0, none⟩) 64 64) 64 (bools (List.replicate 64 false))]) := M.blkRow ((M.blkRow (((M.start w).below HB2.out).alloc (bools (List.replicate 64 false)).toArray 4) (by decide)).alloc #[.int .i64 0] 3) (by decide)
      have HSZ : Hid ((W.alloc (.cells (bools (List.replicate 64 false)).toArray 4)).heap.size = W.heap.size + 1) := by unfold Hid; simp
      rw [HSZ.out] at A2
      go_wp2
      obtain ⟨gt, hgt⟩ : ∃ g, w.heap.size = g := ⟨_, rfl⟩
      have HGT := hideIt hgt
      rw [hgt] at A2
      obtain ⟨gb, hgb⟩ : ∃ g, W.heap.size = g := ⟨_, rfl⟩
      rw [hgb] at A2 ⊢
      clear hgt hgb HSZ hmk n2 hgnl
      go_loopw [9] (fun tv wr => ∃ (td : List Nat) (bn : List Bool), Hid (∀ p ∈ td, t.inn p) ∧ Hid (bn.length = 64 ∧ td.length ≤ 1 + 7 * cntL bn) ∧ Hid (M w gt wr [.row 3 1 tv td.length (ints (natI td)), .row 4 1 (.slice (some ⟨gb, 0, none⟩) 64 64) 64 (bools bn)])) (fun tv wr => 8 * (64 - cntB gb wr) + lenOfS tv)
      case atStart =>
        refine ⟨[0], List.replicate 64 false, fun p hp => ?_, ⟨List.length_replicate, ?_⟩, A2.out⟩
        · rw [List.mem_singleton] at hp; rw [hp]; exact HT.out.r0
        · show 1 ≤ _; omega
      case round =>
        clear A2
        obtain ⟨td, bn, hin, hbn, hM⟩ := hrel
        have HCB : Hid (cntB gb wr = cntL bn) := cntB_eq hbn.out.1 fun q b hq => hM.out.rowCell (i := 1) rfl q (.bool b) (bools_get hq)
        have hc64 := cntL_le bn
        have HB3 : Hid (Below w.heap.size w wr) := by have := hM.out.bl; rw [← HGT.out] at this; exact this
        rcases List.eq_nil_or_concat td with rfl | ⟨td', p, rfl⟩
        · obtain ⟨ta, tcap, rfl⟩ := As.form0 (hM.out.get (i := 0) rfl)
          obtain ⟨p0, ps, hl0, hL⟩ := leaf_first HT.out
          have hRw := hL.row
          rw [hl0] at hRw
          have CR := hideIt (row_yes gw tg tc ug uc p0 T U t ps wr (HP.out.below HB3.out) HT.out HS.out hRw hL.low hL.len)
          clear hM hin hbn HCB hRw hL hl0
          rw [show ([] : List Nat).length = 0 from rfl]
          go_wp2_with fail
          refine CR.out.mono ?_
          rintro e w5 ⟨gt5, kv5, vv5, rfl, hM5⟩
          have HB4 := hideIt (step HB3.out hM5.bl)
          have CW := hideIt (rows_yes gw tg tc ug uc T U t w5 (HP.out.below HB4.out) HT.out HS.out)
          clear CR hM5
          go_wp2_with fail
          refine CW.out.mono ?_
          rintro e w6 ⟨rfl, hb6⟩
          have HB5 := hideIt (step HB4.out hb6)
          clear CW hb6
          go_wp2
          go_ret
          exact ⟨rfl, HB5.out⟩
        · rw [List.concat_eq_append] at hin hM hbn
          have hpi := hin.out p (by simp)
          have HIN2 : Hid (∀ q ∈ td', t.inn q) := fun q hq => hin.out q (by simp [hq])
          rw [List.length_append, List.length_singleton] at hM hbn
          obtain ⟨n1, hn1⟩ : ∃ n, td'.length = n := ⟨_, rfl⟩
          have HN1 := hideIt hn1
          rw [hn1] at hM hbn
          obtain ⟨g, cap, rfl⟩ := As.form (hM.out.get (i := 0) rfl) (by omega)
          have yp := hM.out.rowCell (i := 0) rfl n1 (.int .i64 p) (ints_get (natI_get (by rw [List.getElem?_append_right (by omega), hn1, Nat.sub_self]; rfl)))
          have hMp := hM.out.pop (i := 0) rfl (by unfold natI; rw [List.length_map, List.length_append, List.length_singleton, hn1])
          rw [natI_take, List.take_append_of_le_length (by omega), List.take_of_length_le (by omega)] at hMp
          have HMp : Hid (M w gt wr [.row 3 1 (.slice (some ⟨g, 0, none⟩) n1 cap) n1 (ints (natI td')), .row 4 1 (.slice (some ⟨gb, 0, none⟩) 64 64) 64 (bools bn)]) := hMp
          have hp64 := HT.out.lt p hpi
          have hp0 : (0 : Int) ≤ (p : Int) := by omega
          have hp1 : (p : Int) < 64 := by omega
          have hn0 : (0 : Int) < (n1 : Int) + 1 := by omega
          have hn2 : (0 : Int) ≤ (n1 : Int) := by omega
          have hn450 : n1 ≤ 449 := by have := hbn.out.2; omega
          have hcap : n1 + 1 ≤ cap := by
            have := (hM.out.get (i := 0) rfl).own
            exact ownsRow_cap this
          have hcap1 : (n1 : Int) ≤ (cap : Int) := by omega
          obtain ⟨b, hb⟩ : ∃ b, bn[p]? = some b := ⟨_, List.getElem?_eq_getElem (by rw [hbn.out.1]; exact hp64)⟩
          have b0 := HMp.out.rowCell (i := 1) rfl p (.bool b) (bools_get hb)
          have hgl : g < wr.heap.size := lt_of_cell yp
          have hgbl : gb < wr.heap.size := lt_of_cell b0
          have HPI := hideIt hpi
          have HBB := hideIt hb
          clear hpi hM hMp hin hb hn1
          cases b with
          | true =>
            go_wp2
            go_roundw
            case rel => exact ⟨td', bn, HIN2.out, ⟨hbn.out.1, by rw [HN1.out]; have := hbn.out.2; omega⟩, by rw [HN1.out]; exact HMp.out⟩
            case measure => simp [lenOfS]
          | false =>
            have fz := World.ownsRow.frozenAt (HMp.out.get (i := 1) rfl).own p
            have S1 := HMp.out.storeRow (i := 1) (j := p) rfl (.bool true)
            obtain ⟨w2, hw2⟩ : ∃ W2, wr.setCell ⟨gb, p, none⟩ (.bool true) = W2 := ⟨_, rfl⟩
            rw [hw2, bools_setx] at S1
            have HS1 : Hid (M w gt w2 [.row 3 1 (.slice (some ⟨g, 0, none⟩) n1 cap) n1 (ints (natI td')), .row 4 1 (.slice (some ⟨gb, 0, none⟩) 64 64) 64 (bools (bn.set p true))]) := S1
            have HW2 := hideIt hw2
            have hbl2 : Below w.heap.size w w2 := by have := HS1.out.bl; rw [← HGT.out] at this; exact this
            have CS := hideIt (says_yes gw tg tc ug uc p T U (t.nd p) w2 (HP.out.below hbl2) (HS.out p HPI.out))
            have HLF := hideIt (link_fit HT.out HPI.out)
            have HCF : Hid (0 < (t.nd p).lv → ∀ key v, (key, v) ∈ ent (t.nd p) → ∃ q : Nat, v = (q : Int) ∧ t.inn q ∧ (t.nd q).lv = (t.nd p).lv - 1 ∧ key < (t.nd q).hi ∧ ((t.nd q).ks = [] ∨ key ≤ (t.nd q).ks[0]?.getD 0)) := fun hl key v he => child_fit HT.out HPI.out hl he
            have hrd := right_bd _ (HT.out.rt p HPI.out)
            obtain ⟨d, hd⟩ : ∃ d, t.nd p = d := ⟨_, rfl⟩
            rw [hd] at CS HLF HCF hrd
            have HVL : Hid (d.ks.length = d.vs.length) := hrd.2.2.2.1
            have hk6 : d.ks.length ≤ 6 := hrd.2.2.2.2.1
            have HLV0 := hideIt hrd.1
            have HLV9 : Hid (d.lv ≤ 9) := hrd.2.1
            have HB6 : Hid ((bn.set p true).length = 64 ∧ cntL (bn.set p true) = cntL bn + 1) := ⟨by rw [List.length_set]; exact hbn.out.1, cntL_set hbn.out.1 hp64 HBB.out⟩
            clear hd hrd hw2 S1 hbl2 HMp
            go_upto_region 17 with fail
            rw [HW2.out]
            clear HW2 yp b0 fz hgl hgbl
            go_wp2_with fail
            refine CS.out.mono ?_
            rintro e w3 ⟨kv3, vv3, rfl, hM3⟩
            obtain ⟨ka2, kc2, rfl⟩ := As.form0 (hM3.get (i := 0) rfl)
            obtain ⟨va2, vc2, rfl⟩ := As.form0 (hM3.get (i := 1) rfl)
            have HM4 := hideIt ((HS1.out.join hM3).alloc #[.int .i64 d.lv, .int .i64 d.lk, .int .i64 d.hi, .slice ka2 d.ks.length kc2, .slice va2 d.vs.length vc2] 24)
            obtain ⟨gn, hgn⟩ : ∃ g, w3.heap.size = g := ⟨_, rfl⟩
            obtain ⟨w4, hw4⟩ : ∃ W4, w3.alloc (.cells #[.int .i64 d.lv, .int .i64 d.lk, .int .i64 d.hi, .slice ka2 d.ks.length kc2, .slice va2 d.vs.length vc2] 24) = W4 := ⟨_, rfl⟩
            have HW4 := hideIt hw4
            have HGN := hideIt hgn
            rw [hw4, hgn] at HM4
            clear CS hM3 HS1 hw4 hgn
            go_upto_region 18 with fail
            rw [HW4.out, HGN.out]
            clear HW4 HGN
            have m0 := HM4.out.cell (i := 0) rfl 0 (.int .i64 d.lv) rfl
            have m1 := HM4.out.cell (i := 0) rfl 1 (.int .i64 d.lk) rfl
            have m2 := HM4.out.cell (i := 0) rfl 2 (.int .i64 d.hi) rfl
            have hgnl : gn < w4.heap.size := lt_of_cell m0
            go_upto_if 83 with fail
            go_cut [9, 13] from 54 to 142 (fun tv _ wy => ∃ td2, Hid (∀ q ∈ td2, t.inn q) ∧ Hid (td2.length ≤ n1 + 1) ∧ Hid (M w gt wy [.blk gn #[.int .i64 d.lv, .int .i64 d.lk, .int .i64 d.hi, .slice ka2 d.ks.length kc2, .slice va2 d.vs.length vc2] 24, .row 3 1 (.slice ka2 d.ks.length kc2) d.ks.length (ints d.ks), .row 3 1 (.slice va2 d.vs.length vc2) d.vs.length (ints d.vs), .row 3 1 tv td2.length (ints (natI td2)), .row 4 1 (.slice (some ⟨gb, 0, none⟩) 64 64) 64 (bools (bn.set p true))]))
            case first =>
              rcases HLF.out with hlk | ⟨q, hlk, hq1, hq2, hq3, hq4⟩
              · have hb1 : (d.lk != -1) = false := by simp [hlk]
                clear hlk
                go_wp2
                go_meet
                case rel => exact ⟨td', HIN2.out, by unfold Hid; rw [HN1.out]; omega, by rw [HN1.out]; exact HM4.out⟩
              · have hb1 : (d.lk != -1) = true := by simp [hlk]
                have hbl4 : Below w.heap.size w w4 := by have := HM4.out.bl; rw [← HGT.out] at this; exact this
                have CF := hideIt (fitted_yes gw tg tc ug uc q T U (t.nd q) d.hi d.hi w4 (HP.out.below hbl4) (HS.out q hq1) hq3 hq4)
                rw [hq2, ← hlk] at CF
                have HSN : Hid (ints (natI (td' ++ [q])) = ints (natI td') ++ [.int .i64 d.lk]) := by unfold Hid; rw [natI_snoc, hlk]
                have HQ1 : Hid (∀ x ∈ td' ++ [q], t.inn x) := fun x hx => by
                  rcases List.mem_append.1 hx with h1 | h1
                  · exact HIN2.out x h1
                  · rw [List.mem_singleton] at h1; rw [h1]; exact hq1
                have HLQ : Hid ((td' ++ [q]).length = n1 + 1) := by unfold Hid; rw [List.length_append, List.length_singleton, HN1.out]
                clear hlk hq1 hq2 hq3 hq4 hbl4
                go_wp2_with fail
                refine CF.out.mono ?_
                rintro e w5 ⟨rfl, hb5⟩
                have HM5 := hideIt (HM4.out.below hb5)
                clear CF hb5 m0 m1 m2 hgnl
                have m1 := HM5.out.cell (i := 0) rfl 1 (.int .i64 d.lk) rfl
                have hgnl : gn < w5.heap.size := lt_of_cell m1
                go_wp2_with (at_builtin; refine wpList_append_lies _ rfl _ _ 22 rfl gt 3 i0 (.int .i64 0) 1 8 Tryd.underlying22 hi0 hz0 hz1 hz2 rfl (by decide) _ n1 (ints (natI td')) rfl (World.ownsRow.alloc (HM5.out.get (i := 3) rfl).own _) ⟨_, 0, none⟩ 1 1 [.int .i64 d.lk] rfl rfl (by have := news_one w5 (.int .i64 d.lk) 3; simpa using this) (by simp [Value.oneCell']) (by omega) (by unfold maxLen; omega) (by omega) (by have := HM5.out.sz; simp at this ⊢; omega) _ rfl ?_; intro g1 cap1 w6 hown hgrow hat hlt1; rw [← HSN.out] at hown; have H1 := hideIt ((HM5.out.allocd _).lies (i := 3) rfl hown hgrow hat); clear hown hgrow hat)
                go_meet
                case rel => exact ⟨td' ++ [q], HQ1.out, by unfold Hid; rw [HLQ.out]; omega, by rw [HLQ.out]; exact H1.out⟩
            case rest =>
              obtain ⟨td2, hin2, hl2, hM6⟩ := hcut
              have HM6 := hideIt hM6.out
              clear HM4 m0 m1 m2 hgnl hM6
              go_wp2
              go_loopw [9, 14] (fun tv vi wr => ∃ (td3 : List Nat) (i : Nat), vi = .int .i64 i ∧ i ≤ d.ks.length ∧ Hid (∀ q ∈ td3, t.inn q) ∧ Hid (td3.length ≤ n1 + 1 + i) ∧ Hid (M w gt wr [.blk gn #[.int .i64 d.lv, .int .i64 d.lk, .int .i64 d.hi, .slice ka2 d.ks.length kc2, .slice va2 d.vs.length vc2] 24, .row 3 1 (.slice ka2 d.ks.length kc2) d.ks.length (ints d.ks), .row 3 1 (.slice va2 d.vs.length vc2) d.vs.length (ints d.vs), .row 3 1 tv td3.length (ints (natI td3)), .row 4 1 (.slice (some ⟨gb, 0, none⟩) 64 64) 64 (bools (bn.set p true))])) (fun _ vi _ => d.ks.length - (intOf vi).toNat)
              case atStart => exact ⟨td2, 0, rfl, by omega, hin2.out, hl2.out, HM6.out⟩
              case round =>
                clear HM6
                obtain ⟨td3, i, rfl, hi, hin3, hl3, hM7⟩ := hrel
                have hin0 : (0 : Int) ≤ (i : Int) := by omega
                have m0 := hM7.out.cell (i := 0) rfl 0 (.int .i64 d.lv) rfl
                have m3 := hM7.out.cell (i := 0) rfl 3 (.slice ka2 d.ks.length kc2) rfl
                have hgnl : gn < wr.heap.size := lt_of_cell m0
                obtain ⟨n3, hn3⟩ : ∃ n, td3.length = n := ⟨_, rfl⟩
                have HN3 := hideIt hn3
                rw [hn3] at hM7 hl3
                have hl3' := hl3.out
                clear hn3
                by_cases hgo : 0 < d.lv ∧ i < d.ks.length
                · obtain ⟨hlv, hik⟩ := hgo
                  have hlv9 := HLV9.out
                  have hi1 : (i : Int) < (d.ks.length : Int) := by omega
                  have hkv : i < d.vs.length := by have := HVL.out; omega
                  have hi2 : (i : Int) < (d.vs.length : Int) := by omega
                  obtain ⟨key, hkey⟩ : ∃ y, d.ks[i]? = some y := ⟨_, List.getElem?_eq_getElem hik⟩
                  obtain ⟨v, hv⟩ : ∃ y, d.vs[i]? = some y := ⟨_, List.getElem?_eq_getElem hkv⟩
                  obtain ⟨q, hvq, hq1, hq2, hq3, hq4⟩ := HCF.out hlv key v (List.mem_iff_getElem?.2 ⟨i, by show (d.ks.zip d.vs)[i]? = _; rw [List.getElem?_zip_eq_some]; exact ⟨hkey, hv⟩⟩)
                  subst hvq
                  obtain ⟨kg, kc', hka⟩ := As.form (hM7.out.get (i := 1) rfl) (by omega)
                  cases hka
                  obtain ⟨vg, vc', hva⟩ := As.form (hM7.out.get (i := 2) rfl) (by omega)
                  cases hva
                  obtain ⟨ta, tcap, rfl⟩ := As.form0 (hM7.out.get (i := 3) rfl)
                  have m4 := hM7.out.cell (i := 0) rfl 4 (.slice (some ⟨vg, 0, none⟩) d.vs.length vc2) rfl
                  have yk := hM7.out.rowCell (i := 1) rfl i (.int .i64 key) (ints_get hkey)
                  have yv := hM7.out.rowCell (i := 2) rfl i (.int .i64 q) (ints_get hv)
                  have hkgl : kg < wr.heap.size := lt_of_cell yk
                  have hvgl : vg < wr.heap.size := lt_of_cell yv
                  have HKEY := hideIt hkey
                  have HV := hideIt hv
                  have PL : Hid (∀ W, M w gt W [.blk gn #[.int .i64 d.lv, .int .i64 d.lk, .int .i64 d.hi, .slice (some ⟨kg, 0, none⟩) d.ks.length kc2, .slice (some ⟨vg, 0, none⟩) d.vs.length vc2] 24, .row 3 1 (.slice (some ⟨kg, 0, none⟩) d.ks.length kc2) d.ks.length (ints d.ks), .row 3 1 (.slice (some ⟨vg, 0, none⟩) d.vs.length vc2) d.vs.length (ints d.vs), .row 3 1 (.slice ta n3 tcap) n3 (ints (natI td3)), .row 4 1 (.slice (some ⟨gb, 0, none⟩) 64 64) 64 (bools (bn.set p true))] → Calls Tryd.prog 102 #[.pointer (some ⟨gw, 0, none⟩), .int .i64 q, .int .i64 (IntKind.i64.wrap (d.lv - 1)), .int .i64 key, .int .i64 key] W fun e w' => e = .returned (.bool true) ∧ Below W.heap.size W w') := fun W hW => by
                    have hb : Below w.heap.size w W := by have := hW.bl; rw [← HGT.out] at this; exact this
                    have := fitted_yes gw tg tc ug uc q T U (t.nd q) key key W (HP.out.below hb) (HS.out q hq1) hq3 hq4
                    rw [hq2] at this
                    rw [Go.IntWalk.i64_in (d.lv - 1) (by omega)]
                    exact this
                  have HQ1 : Hid (∀ x ∈ td3 ++ [q], t.inn x) := fun x hx => by
                    rcases List.mem_append.1 hx with h1 | h1
                    · exact hin3.out x h1
                    · rw [List.mem_singleton] at h1; rw [h1]; exact hq1
                  have HLQ : Hid ((td3 ++ [q]).length = n3 + 1) := by unfold Hid; rw [List.length_append, List.length_singleton, HN3.out]
                  have HSN : Hid (ints (natI (td3 ++ [q])) = ints (natI td3) ++ [.int .i64 q]) := natI_snoc td3 q
                  clear hkey hv hq1 hq2 hq3 hq4 hl3
                  go_upto_region 26 with fail
                  go_cut [15] from 101 to 142 (fun o wy => o = .bool true ∧ Hid (M w gt wy [.blk gn #[.int .i64 d.lv, .int .i64 d.lk, .int .i64 d.hi, .slice (some ⟨kg, 0, none⟩) d.ks.length kc2, .slice (some ⟨vg, 0, none⟩) d.vs.length vc2] 24, .row 3 1 (.slice (some ⟨kg, 0, none⟩) d.ks.length kc2) d.ks.length (ints d.ks), .row 3 1 (.slice (some ⟨vg, 0, none⟩) d.vs.length vc2) d.vs.length (ints d.vs), .row 3 1 (.slice ta n3 tcap) n3 (ints (natI td3)), .row 4 1 (.slice (some ⟨gb, 0, none⟩) 64 64) 64 (bools (bn.set p true))]))
                  case first =>
                    go_region_held3 (fun W => W.cell? ⟨gn, 0, none⟩ = some (.int .i64 d.lv) ∧ W.cell? ⟨gn, 3, none⟩ = some (.slice (some ⟨kg, 0, none⟩) d.ks.length kc2) ∧ W.cell? ⟨gn, 4, none⟩ = some (.slice (some ⟨vg, 0, none⟩) d.vs.length vc2) ∧ W.cell? ⟨kg, i, none⟩ = some (.int .i64 key) ∧ W.cell? ⟨vg, i, none⟩ = some (.int .i64 q)) (go_keep) ((go_at_call 102; refine (PL.out _ hM7.out.drew).mono ?_; rintro e w9 ⟨rfl, hb9⟩; have H9 := hideIt (hM7.out.drew.below hb9); have z0 := H9.out.cell (i := 0) rfl 0 (.int .i64 d.lv) rfl; have z1 := H9.out.cell (i := 0) rfl 3 (.slice (some ⟨kg, 0, none⟩) d.ks.length kc2) rfl; have z2 := H9.out.cell (i := 0) rfl 4 (.slice (some ⟨vg, 0, none⟩) d.vs.length vc2) rfl; have z3 := H9.out.rowCell (i := 1) rfl i (.int .i64 key) (ints_get HKEY.out); have z4 := H9.out.rowCell (i := 2) rfl i (.int .i64 q) (ints_get HV.out); clear hb9))
                    all_goals
                      go_wp2
                      go_meet
                      case rel => exact ⟨rfl, H9.out⟩
                  case rest =>
                    obtain ⟨rfl, hM8⟩ := hcut
                    clear hM7 m0 m3 m4 yk yv hkgl hvgl hgnl PL
                    have m4 := hM8.out.cell (i := 0) rfl 4 (.slice (some ⟨vg, 0, none⟩) d.vs.length vc2) rfl
                    have yv := hM8.out.rowCell (i := 2) rfl i (.int .i64 q) (ints_get HV.out)
                    have hgnl : gn < wc.heap.size := lt_of_cell m4
                    have hvgl : vg < wc.heap.size := lt_of_cell yv
                    go_wp2_with (at_builtin; refine wpList_append_lies _ rfl _ _ 22 rfl gt 3 i0 (.int .i64 0) 1 8 Tryd.underlying22 hi0 hz0 hz1 hz2 rfl (by decide) _ n3 (ints (natI td3)) rfl (World.ownsRow.alloc (hM8.out.get (i := 3) rfl).own _) ⟨_, 0, none⟩ 1 1 [.int .i64 q] rfl rfl (by have := news_one wc (.int .i64 q) 3; simpa using this) (by simp [Value.oneCell']) (by omega) (by unfold maxLen; omega) (by omega) (by have := hM8.out.sz; simp at this ⊢; omega) _ rfl ?_; intro g1 cap1 w6 hown hgrow hat hlt1; rw [← HSN.out] at hown; have H1 := hideIt ((hM8.out.allocd _).lies (i := 3) rfl hown hgrow hat); clear hown hgrow hat)
                    go_roundw
                    case rel => exact ⟨td3 ++ [q], i + 1, by go_num, by omega, HQ1.out, by unfold Hid; rw [HLQ.out]; omega, by rw [HLQ.out]; exact H1.out⟩
                    case measure => simp [intOf]; omega
                · have HM9 := hideIt (hM7.out.sub (l' := [.row 3 1 _ n3 (ints (natI td3)), .row 4 1 (.slice (some ⟨gb, 0, none⟩) 64 64) 64 (bools (bn.set p true))]) (List.sublist_append_right [_, _, _] [_, _]))
                  have HCB2 : Hid (cntB gb wr = cntL bn + 1) := by
                    unfold Hid
                    rw [← HB6.out.2]
                    exact cntB_eq HB6.out.1 fun q b hq => HM9.out.rowCell (i := 1) rfl q (.bool b) (bools_get hq)
                  have hc63 : cntL bn + 1 ≤ 64 := by rw [← HB6.out.2]; exact cntL_le _
                  obtain ⟨ta, tcap, hta⟩ := As.form0 (HM9.out.get (i := 0) rfl)
                  have HTA := hideIt hta
                  clear hM7 hta
                  by_cases hlv : 0 < d.lv
                  · have hik : ¬ ((i : Int) < (d.ks.length : Int)) := by omega
                    clear hgo
                    go_wp2
                    go_roundw
                    case rel => exact ⟨td3, bn.set p true, hin3.out, ⟨HB6.out.1, by rw [HB6.out.2, HN3.out]; have := hbn.out.2; omega⟩, by rw [HN3.out]; exact HM9.out⟩
                    case measure =>
                      have h1 := HCB.out
                      have h2 := HCB2.out
                      rw [HTA.out]
                      show 8 * (64 - cntB gb _) + n3 < 8 * (64 - cntB gb _) + (n1 + 1)
                      rw [h1, h2]
                      omega
                  · clear hgo
                    go_wp2
                    go_roundw
                    case rel => exact ⟨td3, bn.set p true, hin3.out, ⟨HB6.out.1, by rw [HB6.out.2, HN3.out]; have := hbn.out.2; omega⟩, by rw [HN3.out]; exact HM9.out⟩
                    case measure =>
                      have h1 := HCB.out
                      have h2 := HCB2.out
                      rw [HTA.out]
                      show 8 * (64 - cntB gb _) + n3 < 8 * (64 - cntB gb _) + (n1 + 1)
                      rw [h1, h2]
                      omega
end Go.Proofs.YtajobgmnmbnhiaaDoor.Sap

/- WHAT IS PROVED HERE: saplingkeep's Standing answers true over any program that keeps an invariant of the world, while the pages are watched, in which the pages are a tree whose leaves are the map. Conditions: named at the theorem; the script has at most 1048576 turns. -/
namespace Go.Proofs.YtajobgmnmbnhiaaDoor.Sap
open Go.RowKit

/-- The leaves are a table. -/
structure StdEq (K V : List Int) (T : List Int × List Int) : Prop where
  len : K.length = T.1.length
  two : T.1.length = T.2.length
  vl : V.length = K.length
  val : ∀ (i : Nat) (k : Int), K[i]? = some k → ∀ fd u, ValR T.1 T.2 k fd u → fd = true ∧ V[i]? = some u
/-- What Standing asks of the world when all operations have ended. -/
def StdOk (x : Wd) : Prop := ∃ (t : Tre) (p0 : Nat) (ps : List Nat), t.Ok ∧ (∀ p, t.inn p → Says x.T x.U p (t.nd p)) ∧ RowF t 0 p0 ps ∧ t.low p0 = 0 ∧ ps.length ≤ 64 ∧ ∀ o', o'.Perm (tkL x.ds) → Srt o' → StdEq (rowK t ps) (rowV t ps) (tabO (ahead o' x.now))

set_option maxRecDepth 100000 in
set_option maxHeartbeats 6400000 in
theorem standing_gen (sv : Value) (ts : List Tn) (Inv0 : Nat → Wd → Prop) (rk0 : Nat → Wd → Nat) (Inv : Nat → Wd → Prop) (rk : Nat → Wd → Nat) (w : World) (htab : Tab w) (hT : TRd w sv ts) (hok : ∀ t ∈ ts, t.ok) (hlen : ts.length ≤ 1048576) (G : Good Inv0 rk0)
    (hMc : ∀ W, Tab W → Mc (Inv W.heap.size) rk W.heap.size W W.heap.size) (hIni : ∀ gw tg tc ug uc vg vc bg bc, Inv gw { Wd.first gw tg tc ug uc vg vc bg bc with wt := true })
    (hOv : ∀ gw x, Inv gw x → x.ov = .slice none 0 0) (hOver : ∀ gw x, Inv gw x → (∀ c, c < 64 → x.bs[c]? = some (-1)) → x.now ≤ 90000000 → ∀ d ∈ x.ds, d.over)
    (hStd : ∀ gw x, Inv gw x → (∀ c, c < 64 → x.bs[c]? = some (-1)) → x.now ≤ 90000000 → StdOk x) :
    Calls Tryd.prog 7 #[sv] w fun e w' => e = .returned (.bool true) ∧ Below w.heap.size w w' := by
  have HT := hideIt hT
  have HOK := hideIt hok
  have HL := hideIt hlen
  have HMCA := hideIt hMc
  have HINI := hideIt hIni
  have HOV := hideIt hOv
  have HOVR := hideIt hOver
  have HSTD := hideIt hStd
  obtain ⟨ao, cap, rfl, -⟩ := hT
  obtain ⟨n, hn⟩ : ∃ n, ts.length = n := ⟨_, rfl⟩
  have HNN := hideIt hn
  rw [hn] at HL HT ⊢
  obtain ⟨Pv, Pb, hpv, hp0⟩ := G.pv w htab
  have CP := hideIt (proved_gen Pv Pb w hpv hp0)
  clear hok hlen G hpv hp0 hMc hIni hOv hOver hStd hn
  go_enter Tryd.func7, Tryd.ntmps7
  go_wp2_with fail
  refine CP.out.mono ?_
  rintro e w1 ⟨rfl, hb1⟩
  have HB1 := hideIt hb1
  have HMC := hideIt (HMCA.out w1 (htab.below hb1))
  have HT1 := hideIt (HT.out.below hb1)
  clear hb1 CP HT
  go_wp2_with fail
  refine (fresh_wd w1).mono ?_
  rintro e w2 ⟨rfl, tg, tc, ug, uc, vg, vc, bg, bc, hM⟩
  obtain ⟨x0, hx0⟩ : ∃ y : Wd, y = { Wd.first w1.heap.size tg tc ug uc vg vc bg bc with wt := true } := ⟨_, rfl⟩
  have S1 : Hid (M w1 w1.heap.size (w2.setCell ⟨w1.heap.size, 9, none⟩ (.bool true)) (x0.as ++ [])) := by
    subst hx0
    exact hM.store (i := 0) (j := 9) rfl (.bool true) rfl
  have HI0 : Hid (Inv w1.heap.size x0) := by unfold Hid; rw [hx0]; exact HINI.out w1.heap.size tg tc ug uc vg vc bg bc
  have HX0 : Hid (x0.now = 0 ∧ x0.ds = []) := by unfold Hid; rw [hx0]; exact ⟨rfl, rfl⟩
  have c9 := hM.cell (i := 0) rfl 9 (.bool false) rfl
  have f9 := hM.free (i := 0) rfl 9
  obtain ⟨gw, hgw⟩ : ∃ g, w1.heap.size = g := ⟨_, rfl⟩
  have HGW := hideIt hgw
  rw [show (Wd.first w1.heap.size tg tc ug uc vg vc bg bc).gw = w1.heap.size from rfl] at c9 f9
  rw [hgw] at S1 HI0 HMC c9 f9 ⊢
  clear hM hx0 hgw
  go_wp2
  go_loopw [5] (fun y wr => ∃ (j : Nat) (x : Wd), y = .int .i64 j ∧ j ≤ n ∧ Hid (x.now ≤ 40 * (j : Int)) ∧ Hid (x.ds.length ≤ j) ∧ Hid (Inv gw x) ∧ Hid (M w1 gw wr (x.as ++ []))) (fun i _ => n - (intOf i).toNat)
  case atStart => exact ⟨0, x0, rfl, by omega, by unfold Hid; rw [HX0.out.1]; decide, by unfold Hid; rw [HX0.out.2]; exact Nat.le_refl _, HI0.out, S1.out⟩
  case round =>
    clear S1 HI0 HX0 c9 f9
    obtain ⟨j, x, rfl, hj, hnw, hnd, hI, hM⟩ := hrel
    have hg : Hid (x.gw = gw) := HMC.out.pg x hI.out
    have g14 := hM.out.cell (i := 0) rfl 14 (.bool false) rfl
    rw [hg.out] at g14
    by_cases hlt : j < n
    · have hj1 : (j : Int) < (n : Int) := by omega
      have hj0 : (0 : Int) ≤ (j : Int) := by omega
      have hl6 := HL.out
      obtain ⟨ao2, cap2, e2, hT2⟩ := HT1.out
      obtain ⟨b, off, e3, hT3⟩ := hT2 (by rw [HNN.out]; omega)
      obtain ⟨t, ht⟩ : ∃ t, ts[j]? = some t := ⟨_, List.getElem?_eq_getElem (by rw [HNN.out]; exact hlt)⟩
      rw [HNN.out] at e2
      cases e2
      subst e3
      have hb2 : Below w1.heap.size w1 wr := by have := hM.out.bl; rw [← HGW.out] at this; exact this
      obtain ⟨c0, c1, c2, c3, c4⟩ := hT3 j t ht
      have c0 := cell_below hb2 _ _ c0
      have c1 := cell_below hb2 _ _ c1
      have c2 := cell_below hb2 _ _ c2
      have c3 := cell_below hb2 _ _ c3
      have c4 := cell_below hb2 _ _ c4
      have hok := HOK.out t (List.mem_of_getElem? ht)
      have CM := hideIt (HMC.out.turn x t.cl t.k t.key t.v t.mv wr [] hok.cl hok.k hok.key hok.v hok.mv hI.out (by have := hnw.out; have := HL.out; omega) (by have := hnd.out; have := HL.out; omega) hM.out)
      clear hM hI hb2 hT3 hT2 ht hok
      go_wp2_with fail
      refine CM.out.mono ?_
      rintro e w4 ⟨⟨u, rfl⟩, x', hI', hn', hd', hM'⟩
      have HI2 := hideIt hI'
      have HM2 := hideIt hM'
      have HN2 : Hid (x'.now ≤ 40 * ((j + 1 : Nat) : Int)) := by unfold Hid; have := hnw.out; omega
      have HD2 : Hid (x'.ds.length ≤ j + 1) := by unfold Hid; have := hnd.out; omega
      clear CM g14 hI' hM' hn' hd' hg c0 c1 c2 c3 c4
      go_wp2
      go_roundw
      case rel => exact ⟨j + 1, x', by go_num, by omega, HN2.out, HD2.out, HI2.out, HM2.out⟩
      case measure => simp [intOf]; omega
    · obtain rfl : j = n := by omega
      have CS := hideIt (HMC.out.settle x wr [] hI.out (by have := HL.out; have := hnw.out; omega) hM.out)
      clear hM hI
      go_wp2_with fail
      refine CS.out.mono ?_
      rintro e w3 ⟨⟨u, rfl⟩, x3, hI3, hid3, hn3, hd3, hM3⟩
      have hg3 : Hid (x3.gw = gw) := HMC.out.pg x3 hI3
      have hnow3 : x3.now ≤ 90000000 := by have := HL.out; have := hnw.out; omega
      obtain ⟨t, p0, ps, ht, hsay, hR, hl0, hl64, heq⟩ := HSTD.out _ x3 hI3 hid3 hnow3
      have HV3 := hideIt (HOVR.out _ x3 hI3 hid3 hnow3)
      have HOv := hideIt (HOV.out _ x3 hI3)
      have HN6 : Hid (x3.ds.length ≤ 1048576) := by unfold Hid; have := HL.out; have := hnd.out; omega
      have HEQ := hideIt heq
      have CR := hideIt (row_yes x3.gw _ _ _ _ p0 x3.T x3.U t ps w3 hM3.pages ht hsay hR hl0 hl64)
      rw [hg3.out] at CR
      have HKL := hideIt (rowK_len ht fun q hq => (hR.inn q hq).1)
      obtain ⟨K, hK⟩ : ∃ y, rowK t ps = y := ⟨_, rfl⟩
      obtain ⟨V, hV⟩ : ∃ y, rowV t ps = y := ⟨_, rfl⟩
      rw [hK, hV] at CR HEQ HKL
      have hk400 : K.length ≤ 384 := by have := HKL.out.1; omega
      have HM3 := hideIt hM3
      clear CS hI3 hid3 hM3 ht hsay hR heq hK hV hn3 hd3 hnow3 g14 hg
      go_wp2_with fail
      refine CR.out.mono ?_
      rintro e w4 ⟨gt, kv, vv, rfl, hM4⟩
      have hJ := (HM3.out.join hM4).perm (l' := x3.as ++ [As.blk gt #[kv, vv] 67, As.row 3 1 kv K.length (ints K), As.row 3 1 vv K.length (ints V)]) (by rw [List.append_nil]; exact List.perm_append_comm (l₁ := x3.as) (l₂ := [As.blk gt #[kv, vv] 67, As.row 3 1 kv K.length (ints K), As.row 3 1 vv K.length (ints V)]))
      have A4 : Hid (M w1 gw w4 (x3.as ++ (.row 111 4 x3.ov ([] : List Dn).length (dnc []) :: [As.blk gt #[kv, vv] 67, As.row 3 1 kv K.length (ints K), As.row 3 1 vv K.length (ints V)]))) := by
        unfold Hid
        rw [HOv.out]
        exact M.nil2 (l1 := x3.as) hJ
      have g14 := hJ.cell (i := 0) rfl 14 (.bool false) rfl
      have g10 := hJ.cell (i := 0) rfl 10 (.bool false) rfl
      have g5 := hJ.cell (i := 0) rfl 5 (.int .i64 x3.now) rfl
      rw [hg3.out] at g14 g10 g5
      have CA := hideIt (at_any x3 [] x3.now [As.blk gt #[kv, vv] 67, As.row 3 1 kv K.length (ints K), As.row 3 1 vv K.length (ints V)] w1 w4 gw HV3.out (by have := HN6.out; omega) (Or.inl ⟨HOv.out, rfl⟩) A4.out)
      rw [hg3.out] at CA
      obtain ⟨nw, hnw3⟩ : ∃ y, x3.now = y := ⟨_, rfl⟩
      rw [hnw3] at CA g5 HEQ
      clear CR hM4 hJ A4 HM3 hnw3
      go_wp2_with fail
      refine CA.out.mono ?_
      rintro e w5 ⟨gm, rfl, ov', o', hp, hs, km, vm, hM5⟩
      have HE := hideIt (HEQ.out o' hp hs)
      obtain ⟨T2, hT2⟩ : ∃ y, tabO (ahead o' nw) = y := ⟨_, rfl⟩
      rw [hT2] at HE hM5
      have HM6 := hideIt (hM5.sub (l' := [.blk gm #[km, vm] 67, .row 3 1 km T2.1.length (ints T2.1), .row 3 1 vm T2.1.length (ints T2.2), .blk gt #[kv, vv] 67, .row 3 1 kv K.length (ints K), .row 3 1 vv K.length (ints V)]) (List.Sublist.cons_cons _ (List.Sublist.cons_cons _ (List.Sublist.cons_cons _ ((List.sublist_cons_self _ _).trans (List.sublist_append_right _ _))))))
      obtain ⟨ka, kc, rfl⟩ := As.form0 (HM6.out.get (i := 4) rfl)
      obtain ⟨ma, mc, rfl⟩ := As.form0 (HM6.out.get (i := 1) rfl)
      have hlb : ((K.length : Int) != (T2.1.length : Int)) = false := by rw [HE.out.len]; simp
      have hlb2 : (K.length != T2.1.length) = false := by rw [HE.out.len]; simp
      have q0 := HM6.out.cell (i := 3) rfl 0 (.slice ka K.length kc) rfl
      have q1 := HM6.out.cell (i := 0) rfl 0 (.slice ma T2.1.length mc) rfl
      have hgtl : gt < w5.heap.size := lt_of_cell q0
      have hgml : gm < w5.heap.size := lt_of_cell q1
      clear CA hM5 hp hs hT2 g14 g10 g5 HEQ
      go_wp2
      go_quiet (fail)
      have HM7 := hideIt (HM6.out.drewN nq)
      obtain ⟨w6, hw6⟩ : ∃ W, w5.drewN nq = W := ⟨_, rfl⟩
      rw [hw6] at HM7 ⊢
      clear hw6 HM6 q0 q1 hgtl hgml
      go_wp2
      go_loopw [9] (fun y wr => ∃ i : Nat, y = .int .i64 i ∧ i ≤ K.length ∧ Hid (M w1 gw wr [.blk gm #[.slice ma T2.1.length mc, vm] 67, .row 3 1 (.slice ma T2.1.length mc) T2.1.length (ints T2.1), .row 3 1 vm T2.1.length (ints T2.2), .blk gt #[.slice ka K.length kc, vv] 67, .row 3 1 (.slice ka K.length kc) K.length (ints K), .row 3 1 vv K.length (ints V)])) (fun y _ => K.length - (intOf y).toNat)
      case atStart => exact ⟨0, rfl, by omega, HM7.out⟩
      case round =>
        clear HM7
        obtain ⟨i, rfl, hi, hM8⟩ := hrel
        have hi0 : (0 : Int) ≤ (i : Int) := by omega
        have q0 := hM8.out.cell (i := 3) rfl 0 (.slice ka K.length kc) rfl
        have hgtl : gt < wr.heap.size := lt_of_cell q0
        by_cases hlt2 : i < K.length
        · have hi1 : (i : Int) < (K.length : Int) := by omega
          obtain ⟨k, hk⟩ : ∃ k, K[i]? = some k := ⟨_, List.getElem?_eq_getElem hlt2⟩
          obtain ⟨kg, kc', hka⟩ := As.form (hM8.out.get (i := 4) rfl) (by omega)
          cases hka
          have yk := hM8.out.rowCell (i := 4) rfl i (.int .i64 k) (ints_get hk)
          have hkgl : kg < wr.heap.size := lt_of_cell yk
          have rK : Rd wr (.slice ma T2.1.length mc) T2.1 := owns_rd (hM8.out.get (i := 1) rfl).own
          have rV : Rd wr vm T2.2 := by have := owns_rd (h := by rw [← HE.out.two]; exact (hM8.out.get (i := 2) rfl).own); exact this
          have CV := hideIt (value_any gm _ vm T2.1 T2.2 k wr (hM8.out.cell (i := 0) rfl 0 _ rfl) (hM8.out.cell (i := 0) rfl 1 _ rfl) rK rV (by have := HE.out.len; omega) HE.out.two)
          have HVK : Hid (∀ fd u, ValR T2.1 T2.2 k fd u → fd = true ∧ V[i]? = some u) := HE.out.val i k hk
          clear rK rV hk
          go_wp2_with fail
          refine CV.out.mono ?_
          rintro e w7 ⟨fd, u, rfl, hV, hb7⟩
          obtain ⟨hfd, hvi⟩ := HVK.out fd u hV
          subst hfd
          have HM9 := hideIt (hM8.out.below hb7)
          have hvl : 0 < V.length := by have := (List.getElem?_eq_some_iff.1 hvi).1; omega
          obtain ⟨vg2, vc2, hvv⟩ := As.form (HM9.out.get (i := 5) rfl) (by omega)
          subst hvv
          have q1 := HM9.out.cell (i := 3) rfl 1 (.slice (some ⟨vg2, 0, none⟩) K.length vc2) rfl
          have yv := HM9.out.rowCell (i := 5) rfl i (.int .i64 u) (ints_get hvi)
          have hgt2 : gt < w7.heap.size := lt_of_cell q1
          have hvg2 : vg2 < w7.heap.size := lt_of_cell yv
          have huu : (u != u) = false := by simp
          clear CV hV hb7 hvi hM8 q0 yk hkgl hgtl HVK
          go_wp2
          go_roundw
          case rel => exact ⟨i + 1, by go_num, by omega, HM9.out⟩
          case measure => simp [intOf]; omega
        · obtain rfl : i = K.length := by omega
          have HB9 := hideIt (step HB1.out (by have := hM8.out.bl; rw [← HGW.out] at this; exact this))
          clear hM8
          go_wp2
          go_ret
          exact ⟨rfl, HB9.out⟩
end Go.Proofs.YtajobgmnmbnhiaaDoor.Sap

/- WHAT IS PROVED HERE: Standing over the program at this commit: behind each access the pages stand, and when all operations have ended the leaves are the map. Conditions: the table of powers of ten is laid; the script has at most 1048576 turns. -/
namespace Go.Proofs.YtajobgmnmbnhiaaDoor.Sap
open Go.RowKit

theorem standsOk : StandsOk := fun gw tg tc ug uc T U t W ht _ hU hs hu hP => stands_yes gw tg tc ug uc T U t W ht hU hs hu hP
theorem Inv.std {wt : Bool} {gw : Nat} {x : Wd} {t : Tre} {S : Nat → St} {o : List Dn} (h : Inv wt gw x t S o) (hid : ∀ c, c < 64 → x.bs[c]? = some (-1)) : StdOk x := by
  obtain ⟨p0, ps, hl0, hL⟩ := leaf_first h.tok
  have R := hL.row
  rw [hl0] at R
  refine ⟨t, p0, ps, h.tok, h.say, R, hL.low, hL.len, fun o' hp hs => ?_⟩
  rw [h.uniq hid hp hs, ahead_all o x.now h.ot]
  obtain ⟨r1, r2, r3⟩ := leaf_row h.tok h.lf h.okeys R fun q hq hl => hL.all q hq (by rw [hl, hl0])
  obtain ⟨a1, a2, a3⟩ := tabO_look o h.ok
  have hnz : (((tabO o).1.zip (tabO o).2).map Prod.fst).Nodup := by rw [fst_zip a2]; exact a1
  have hkn : (rowK t ps).Nodup := r2.imp fun h e => by omega
  refine ⟨perm_len hkn a1 fun q => ?_, a2, r1.symm, fun i k hk fd u hv => ?_⟩
  · constructor
    · intro hq
      rw [← fst_zip r1] at hq
      obtain ⟨y, hy, rfl⟩ := List.mem_map.1 hq
      have := (r3 y.1 y.2).1 hy
      rw [← a3] at this
      exact (List.of_mem_zip (mem_look this)).1
    · intro hq
      rw [← fst_zip a2] at hq
      obtain ⟨y, hy, rfl⟩ := List.mem_map.1 hq
      have := look_mem hnz hy
      rw [a3] at this
      exact (List.of_mem_zip ((r3 y.1 y.2).2 this)).1
  · have hil := (List.getElem?_eq_some_iff.1 hk).1
    have hiv : i < (rowV t ps).length := by omega
    have hm : (k, (rowV t ps)[i]) ∈ (rowK t ps).zip (rowV t ps) := List.mem_iff_getElem?.2 ⟨i, by rw [List.getElem?_zip_eq_some]; exact ⟨hk, List.getElem?_eq_getElem hiv⟩⟩
    have h1 := (r3 _ _).1 hm
    have h2 := valR_look a1 a2 hv
    rw [a3, h1] at h2
    exact ⟨h2.1, by rw [List.getElem?_eq_getElem hiv, h2.2]; rfl⟩
theorem inv_watch (gw tg tc ug uc vg vc bg bc : Nat) : InvG true gw { Wd.first gw tg tc ug uc vg vc bg bc with wt := true } := by
  have h := inv_first gw tg tc ug uc vg vc bg bc
  have F := FulX.first gw tg tc ug uc vg vc bg bc (fun _ => bgS 1 1 0)
  refine ⟨⟨Tre.one, fun _ => bgS 1 1 0, [], ⟨h.pg, h.kp, rfl, h.ov, h.tl, h.ul, h.vl, h.tok, h.lf, h.say, h.us, h.vb, h.now, h.puts, h.bsl, h.bs, h.inj, h.ds, h.apart, h.own, h.os, h.op, h.ot, h.ok⟩, Xtr.first _ _, ⟨F.pot, F.use, F.sp2, F.er, F.puts⟩⟩, ?_⟩
  show (0 : Nat) ≤ _; omega
theorem standing_any (sv : Value) (ts : List Tn) (w : World) (htab : Tab w) (hT : TRd w sv ts) (hok : ∀ t ∈ ts, t.ok) (hlen : ts.length ≤ 1048576) :
    Calls Tryd.prog 7 #[sv] w fun e w' => e = .returned (.bool true) ∧ Below w.heap.size w w' := by
  obtain ⟨rk0, G⟩ := good_ex
  obtain ⟨rk, hrk⟩ := mc_ex
  exact standing_gen sv ts (InvG false) rk0 (InvG true) rk w htab hT hok hlen G (fun W ht => hrk true (fun _ => standsOk) W ht) inv_watch (fun gw x ⟨⟨_, _, _, h, _⟩, _⟩ => h.ov) (fun gw x ⟨⟨_, _, _, h, _⟩, _⟩ hid hn => h.over hid hn) fun gw x ⟨⟨_, _, _, h, _⟩, _⟩ hid _ => h.std hid
end Go.Proofs.YtajobgmnmbnhiaaDoor.Sap
