/- WHAT IS PROVED HERE: saplingkeep's rows: over pages that are a tree, level by level, the first keys are the Highs of the nodes ahead, and each child is in the row below. Conditions: named at each theorem. -/
import Derived.Test.YtajobgmnmbnhiaaDoorPt44
import Derived.Test.YtajobgmnmbnhiaaDoorPt52
namespace Go.Proofs.YtajobgmnmbnhiaaDoor.Sap
open Go.RowKit
theorem chain_of {T : List ByteArray} {U : List Bool} {t : Tre} (hsay : ∀ p, t.inn p → Says T U p (t.nd p)) {l : Int} {p : Nat} {ps : List Nat} (R : RowF t l p ps) : Chain T U ps := fun i q hq => ⟨t.nd q, hsay q (R.inn q (List.mem_of_getElem? hq)).1, R.lk i q hq⟩
theorem natI_get {ps : List Nat} {i q : Nat} (h : ps[i]? = some q) : (natI ps)[i]? = some (q : Int) := by unfold natI; rw [List.getElem?_map, h]; rfl
def rowLv (t : Tre) (v : Value) (w : World) : Nat := match v with
  | .slice (some a) _ _ => (match w.cell? a with
    | some (.int _ q) => (t.nd q.toNat).lv.toNat
    | _ => 0)
  | _ => 0
theorem rowLv_eq {t : Tre} {w : World} {g p n cap : Nat} (h : w.cell? ⟨g, 0, none⟩ = some (.int .i64 p)) : rowLv t (.slice (some ⟨g, 0, none⟩) n cap) w = (t.nd p).lv.toNat := by
  unfold rowLv
  simp only [h, Int.toNat_natCast]
structure LvR (t : Tre) (p : Nat) (ps : List Nat) : Prop where
  inn : t.inn p
  low : t.low p = 0
  row : RowF t (t.nd p).lv p ps
  len : ps.length ≤ 64
  all : ∀ q, t.inn q → (t.nd q).lv = (t.nd p).lv → q ∈ ps
theorem LvR.first {t : Tre} (h : t.Ok) : LvR t 0 [0] := by
  obtain ⟨ps, h1, h2, h3, h4⟩ := row_all h h.r0 h.l0
  have hp : ∀ q ∈ ps, q = 0 := fun q hq => by
    have := h1.inn q hq
    rcases Nat.eq_zero_or_pos q with e | e
    · exact e
    · have := h.top q this.1 (by omega); omega
  have : ps = [0] := by
    have hd := h1.hd
    match ps, hd, h3, hp with
    | [a], hd, _, _ => cases hd; rfl
    | a :: b :: r, _, h3, hp =>
      have e1 := hp a (by simp)
      have e2 := hp b (by simp)
      rw [e1, e2] at h3
      simp at h3
  rw [this] at h1 h2 h4
  exact ⟨h.r0, h.l0, h1, h2, h4⟩
theorem LvR.down {t : Tre} (h : t.Ok) {p : Nat} {ps : List Nat} (L : LvR t p ps) (hl : 0 < (t.nd p).lv) : ∃ (c : Nat) (qs : List Nat), (t.nd p).vs[0]? = some (c : Int) ∧ (t.nd c).lv + 1 = (t.nd p).lv ∧ LvR t c qs := by
  obtain ⟨c, h1, h2, h3, h4⟩ := first_child h L.inn L.low hl
  obtain ⟨qs, r1, r2, -, r4⟩ := row_all h h2 h3
  exact ⟨c, qs, h1, h4, h2, h3, r1, r2, r4⟩
set_option maxRecDepth 100000 in
set_option maxHeartbeats 6400000 in
theorem rows_yes (gw tg tc ug uc : Nat) (T : List ByteArray) (U : List Bool) (t : Tre) (w : World) (h : PgR gw tg tc ug uc T U w) (ht : t.Ok) (hsay : ∀ p, t.inn p → Says T U p (t.nd p)) :
    Calls Tryd.prog 103 #[.pointer (some ⟨gw, 0, none⟩)] w fun e w' => e = .returned (.bool true) ∧ Below w.heap.size w w' := by
  have HP := hideIt h
  have HS := hideIt hsay
  have HT := hideIt ht
  have A0 : Hid (M w w.heap.size (w.alloc (.cells #[.int .i64 0] 3)) [.row 3 1 (.slice (some ⟨w.heap.size, 0, none⟩) 1 1) [0].length (ints (natI [0]))]) := M.blkRow ((M.start w).alloc #[.int .i64 0] 3) (by decide)
  have HR0 := hideIt (LvR.first ht)
  clear h hsay ht
  go_enter Tryd.func103, Tryd.ntmps103
  go_wp2
  obtain ⟨gt, hgt⟩ : ∃ g, w.heap.size = g := ⟨_, rfl⟩
  have HGT := hideIt hgt
  rw [hgt] at A0 ⊢
  clear hgt
  go_loopw [3] (fun rv wr => ∃ (p : Nat) (ps : List Nat), Hid (LvR t p ps) ∧ Hid (M w gt wr [.row 3 1 rv ps.length (ints (natI ps))])) (fun rv wr => rowLv t rv wr)
  case atStart => exact ⟨0, [0], HR0.out, A0.out⟩
  case round =>
    clear A0 HR0
    obtain ⟨p, ps, hR, hM⟩ := hrel
    have hbl : Hid (Below w.heap.size w wr) := by have := hM.out.bl; rw [← HGT.out] at this; exact this
    have hp0 := hR.out.row.hd
    have hpl : 0 < ps.length := (List.getElem?_eq_some_iff.1 hp0).1
    obtain ⟨m, hm⟩ : ∃ m, ps.length = m := ⟨_, rfl⟩
    have HMM := hideIt hm
    rw [hm] at hM hpl
    have hm64 : m ≤ 64 := by rw [← hm]; exact hR.out.len
    obtain ⟨rg, rc, rfl⟩ := As.form (hM.out.get (i := 0) rfl) hpl
    have y0 := hM.out.rowCell (i := 0) rfl 0 (.int .i64 p) (ints_get (natI_get hp0))
    have hrgl : rg < wr.heap.size := lt_of_cell y0
    have hm0 : (0 : Int) < (m : Int) := by omega
    have HLV := hideIt (rowLv_eq (t := t) (n := m) (cap := rc) y0)
    have CS := hideIt (says_yes gw tg tc ug uc p T U (t.nd p) wr (HP.out.below hbl.out) (HS.out p hR.out.inn))
    have hlv0 := (right_bd _ (HT.out.rt p hR.out.inn)).1
    obtain ⟨n, hn⟩ : ∃ n, t.nd p = n := ⟨_, rfl⟩
    have HN := hideIt hn
    rw [hn] at CS hlv0 HLV
    clear hn hp0 hm
    go_wp2_with fail
    refine CS.out.mono ?_
    rintro e w1 ⟨kv1, vv1, rfl, hM1⟩
    obtain ⟨ka, kc, rfl⟩ := As.form0 (hM1.get (i := 0) rfl)
    obtain ⟨va, vc, rfl⟩ := As.form0 (hM1.get (i := 1) rfl)
    have HM3 := hideIt ((hM.out.join hM1).alloc #[.int .i64 n.lv, .int .i64 n.lk, .int .i64 n.hi, .slice ka n.ks.length kc, .slice va n.vs.length vc] 24)
    clear CS hM1 hM hbl y0 hrgl
    by_cases hlv : n.lv = 0
    · have HB := hideIt HM3.out.bl
      rw [← HGT.out] at HB
      have hlb : (n.lv == 0) = true := by simp [hlv]
      clear HM3 hlv
      go_wp2
      go_ret
      first | exact ⟨rfl, HB.out⟩ | exact ⟨ret_bool hlb, HB.out⟩
    · obtain ⟨c, qs, hc1, hc2, hQ⟩ := hR.out.down HT.out (by rw [HN.out]; omega)
      rw [HN.out] at hc1 hc2
      have HQ := hideIt hQ
      have HC2 := hideIt hc2
      have hvl : 0 < n.vs.length := (List.getElem?_eq_some_iff.1 hc1).1
      have hvl0 : (0 : Int) < (n.vs.length : Int) := by omega
      have hvb : ((n.vs.length : Int) == 0) = false := by rw [beq_eq_false_iff_ne]; omega
      have hvb2 : (n.vs.length == 0) = false := by rw [beq_eq_false_iff_ne]; omega
      have hlb : (n.lv == 0) = false := by simp [hlv]
      obtain ⟨vg, vcap, hva⟩ := As.form (HM3.out.get (i := 2) rfl) hvl
      cases hva
      obtain ⟨gn, hgn⟩ : ∃ g, w1.heap.size = g := ⟨_, rfl⟩
      obtain ⟨w2, hw2⟩ : ∃ W, w1.alloc (.cells #[.int .i64 n.lv, .int .i64 n.lk, .int .i64 n.hi, .slice ka n.ks.length kc, .slice (some ⟨vg, 0, none⟩) n.vs.length vc] 24) = W := ⟨_, rfl⟩
      have HW2 := hideIt hw2
      have HGN := hideIt hgn
      rw [hw2, hgn] at HM3
      have y1 := HM3.out.rowCell (i := 2) rfl 0 (.int .i64 c) (ints_get hc1)
      have n0 := HM3.out.cell (i := 0) rfl 0 (.int .i64 n.lv) rfl
      have n4 := HM3.out.cell (i := 0) rfl 4 (.slice (some ⟨vg, 0, none⟩) n.vs.length vc) rfl
      have hgnl : gn < w2.heap.size := lt_of_cell n0
      have hvgl : vg < w2.heap.size := lt_of_cell y1
      have hbl2 : Below w.heap.size w w2 := by have := HM3.out.bl; rw [← HGT.out] at this; exact this
      have CA := hideIt (along_yes gw tg tc ug uc c T U qs w2 (HP.out.below hbl2) (chain_of HS.out hQ.row) hQ.row.hd hQ.len)
      clear hw2 hgn hc1 hc2 hQ hbl2
      go_upto_region 3 with fail
      rw [HW2.out, HGN.out]
      clear HW2 HGN
      go_wp2_with fail
      refine CA.out.mono ?_
      rintro e w3 ⟨bv, rfl, hM4⟩
      obtain ⟨mb, hmb⟩ : ∃ m, qs.length = m := ⟨_, rfl⟩
      have HMB := hideIt hmb
      rw [hmb] at hM4
      have HM5 := hideIt ((HM3.out.join hM4).sub (l' := [.row 3 1 bv mb (ints (natI qs)), .row 3 1 (.slice (some ⟨rg, 0, none⟩) m rc) m (ints (natI ps))]) (List.Sublist.cons_cons _ (List.sublist_append_right [_, _, _] [_])))
      clear CA hM4 HM3 n0 n4 y1 hgnl hvgl hmb
      go_wp2
      go_loopw [7] (fun vi wi => ∃ i : Nat, vi = .int .i64 i ∧ i ≤ m ∧ Hid (M w gt wi [.row 3 1 bv mb (ints (natI qs)), .row 3 1 (.slice (some ⟨rg, 0, none⟩) m rc) m (ints (natI ps))])) (fun vi _ => m - (intOf vi).toNat)
      case atStart => exact ⟨0, rfl, by omega, HM5.out⟩
      case round =>
        clear HM5
        obtain ⟨i, rfl, hi, hM⟩ := hrel
        have hi0 : (0 : Int) ≤ (i : Int) := by omega
        by_cases hlt : i < m
        · have hi1 : (i : Int) < (m : Int) := by omega
          obtain ⟨q, hq⟩ : ∃ q, ps[i]? = some q := ⟨_, List.getElem?_eq_getElem (by rw [HMM.out]; exact hlt)⟩
          have hqi := hR.out.row.inn q (List.mem_of_getElem? hq)
          have hlp : 0 < (t.nd p).lv := by rw [HN.out]; omega
          obtain ⟨a, r, hks, hfr⟩ := hR.out.row.first HT.out hR.out.low hlp hq
          have HCH : Hid (∀ key v, (key, v) ∈ ent (t.nd q) → ∃ c j : Nat, v = (c : Int) ∧ qs[j]? = some c ∧ (∀ j', j' < j → qs[j']? ≠ some c) ∧ (j = 0 ∨ ∃ a, qs[j - 1]? = some a ∧ (t.nd a).hi ≤ key)) := fun key v he => by
            have e : (t.nd p).lv - 1 = (t.nd c).lv := by rw [HN.out]; have := HC2.out; omega
            exact hR.out.row.child HT.out hlp (Q := by rw [e]; exact HQ.out.row) (fun x hx hl => HQ.out.all x hx (by rw [hl, e])) (List.mem_of_getElem? hq) he
          have hbl3 : Below w.heap.size w wr := by have := hM.out.bl; rw [← HGT.out] at this; exact this
          have CS := hideIt (says_yes gw tg tc ug uc q T U (t.nd q) wr (HP.out.below hbl3) (HS.out q hqi.1))
          have hrd := right_bd _ (HT.out.rt q hqi.1)
          obtain ⟨d, hd⟩ : ∃ d, t.nd q = d := ⟨_, rfl⟩
          have HD := hideIt hd
          rw [hd] at CS hks HCH hrd
          have HKS := hideIt hks
          have hkl : 0 < d.ks.length := by rw [hks]; simp
          have HVL : Hid (d.ks.length = d.vs.length) := hrd.2.2.2.1
          have hk6 : d.ks.length ≤ 6 := hrd.2.2.2.2.1
          have hvl2 : 0 < d.vs.length := by have := HVL.out; omega
          have yq := hM.out.rowCell (i := 1) rfl i (.int .i64 q) (ints_get (natI_get hq))
          have HFR := hideIt hfr
          clear hd hks hrd hqi hlp hfr hbl3
          have hrgl : rg < wr.heap.size := lt_of_cell yq
          go_wp2_with fail
          refine CS.out.mono ?_
          rintro e w4 ⟨kv4, vv4, rfl, hM4⟩
          obtain ⟨kg, kc2, rfl⟩ := As.form (hM4.get (i := 0) rfl) hkl
          obtain ⟨vg2, vc2, rfl⟩ := As.form (hM4.get (i := 1) rfl) hvl2
          have HM7 := hideIt ((hM.out.join hM4).alloc #[.int .i64 d.lv, .int .i64 d.lk, .int .i64 d.hi, .slice (some ⟨kg, 0, none⟩) d.ks.length kc2, .slice (some ⟨vg2, 0, none⟩) d.vs.length vc2] 24)
          obtain ⟨g2, hg2⟩ : ∃ g, w4.heap.size = g := ⟨_, rfl⟩
          obtain ⟨w5, hw5⟩ : ∃ W, w4.alloc (.cells #[.int .i64 d.lv, .int .i64 d.lk, .int .i64 d.hi, .slice (some ⟨kg, 0, none⟩) d.ks.length kc2, .slice (some ⟨vg2, 0, none⟩) d.vs.length vc2] 24) = W := ⟨_, rfl⟩
          have HW5 := hideIt hw5
          have HG2 := hideIt hg2
          rw [hw5, hg2] at HM7
          clear CS hM4 hM hw5 hg2 yq hrgl hq
          go_upto_region 11 with fail
          rw [HW5.out, HG2.out]
          clear HW5 HG2
          go_upto_if 58 with fail
          go_cut [10, 11, 12] from 42 to 104 (fun f _ _ wy => f = .int .i64 a ∧ Hid (M w gt wy [.blk g2 #[.int .i64 d.lv, .int .i64 d.lk, .int .i64 d.hi, .slice (some ⟨kg, 0, none⟩) d.ks.length kc2, .slice (some ⟨vg2, 0, none⟩) d.vs.length vc2] 24, .row 3 1 (.slice (some ⟨kg, 0, none⟩) d.ks.length kc2) d.ks.length (ints d.ks), .row 3 1 (.slice (some ⟨vg2, 0, none⟩) d.vs.length vc2) d.vs.length (ints d.vs), .row 3 1 bv mb (ints (natI qs)), .row 3 1 (.slice (some ⟨rg, 0, none⟩) m rc) m (ints (natI ps))]))
          case first =>
            rcases HFR.out with ⟨hi00, ha0⟩ | ⟨b, hib, hb, hab⟩
            · subst hi00
              subst ha0
              clear HFR
              go_wp2
              go_meet
              case rel => exact ⟨rfl, HM7.out⟩
            · obtain ⟨i', rfl⟩ : ∃ i', i = i' + 1 := ⟨i - 1, by omega⟩
              rw [Nat.add_sub_cancel] at hb
              have hbi := hR.out.row.inn b (List.mem_of_getElem? hb)
              have hbl4 : Below w.heap.size w w5 := by have := HM7.out.bl; rw [← HGT.out] at this; exact this
              have CS2 := hideIt (says_yes gw tg tc ug uc b T U (t.nd b) w5 (HP.out.below hbl4) (HS.out b hbi.1))
              have yb := HM7.out.rowCell (i := 4) rfl i' (.int .i64 b) (ints_get (natI_get hb))
              have hrgl : rg < w5.heap.size := lt_of_cell yb
              obtain ⟨f, hf⟩ : ∃ f, t.nd b = f := ⟨_, rfl⟩
              rw [hf] at CS2 hab
              have HAB := hideIt hab
              have hj2 : (0 : Int) ≤ (i' : Int) := by omega
              have hj3 : (i' : Int) < (m : Int) := by omega
              have hj4 : (0 : Int) < (i' : Int) + 1 := by omega
              clear hf hab hb hbi hbl4 HFR hib
              go_wp2_with fail
              refine CS2.out.mono ?_
              rintro e w6 ⟨kv6, vv6, rfl, hM6⟩
              obtain ⟨ka6, kc6, rfl⟩ := As.form0 (hM6.get (i := 0) rfl)
              obtain ⟨va6, vc6, rfl⟩ := As.form0 (hM6.get (i := 1) rfl)
              have HM8 := hideIt (((HM7.out.join hM6).alloc #[.int .i64 f.lv, .int .i64 f.lk, .int .i64 f.hi, .slice ka6 f.ks.length kc6, .slice va6 f.vs.length vc6] 24).sub (l' := [.blk g2 #[.int .i64 d.lv, .int .i64 d.lk, .int .i64 d.hi, .slice (some ⟨kg, 0, none⟩) d.ks.length kc2, .slice (some ⟨vg2, 0, none⟩) d.vs.length vc2] 24, .row 3 1 (.slice (some ⟨kg, 0, none⟩) d.ks.length kc2) d.ks.length (ints d.ks), .row 3 1 (.slice (some ⟨vg2, 0, none⟩) d.vs.length vc2) d.vs.length (ints d.vs), .row 3 1 bv mb (ints (natI qs)), .row 3 1 (.slice (some ⟨rg, 0, none⟩) m rc) m (ints (natI ps))]) (List.sublist_append_right [_, _, _] [As.blk g2 #[.int .i64 d.lv, .int .i64 d.lk, .int .i64 d.hi, .slice (some ⟨kg, 0, none⟩) d.ks.length kc2, .slice (some ⟨vg2, 0, none⟩) d.vs.length vc2] 24, As.row 3 1 (.slice (some ⟨kg, 0, none⟩) d.ks.length kc2) d.ks.length (ints d.ks), As.row 3 1 (.slice (some ⟨vg2, 0, none⟩) d.vs.length vc2) d.vs.length (ints d.vs), As.row 3 1 bv mb (ints (natI qs)), As.row 3 1 (.slice (some ⟨rg, 0, none⟩) m rc) m (ints (natI ps))]))
              clear CS2 hM6 yb hrgl
              go_wp2
              go_meet
              case rel => exact ⟨by rw [HAB.out], HM8.out⟩
          case rest =>
            obtain ⟨rfl, hM8⟩ := hcut
            clear HM7 HFR
            have HM8 := hideIt hM8.out
            obtain ⟨nk, hnk⟩ : ∃ n, d.ks.length = n := ⟨_, rfl⟩
            have HNK := hideIt hnk
            have n3 := HM8.out.cell (i := 0) rfl 3 (.slice (some ⟨kg, 0, none⟩) d.ks.length kc2) rfl
            have k0 := HM8.out.rowCell (i := 1) rfl 0 (.int .i64 a) (ints_get (by rw [HKS.out]; rfl))
            have hg2l : g2 < wc.heap.size := lt_of_cell n3
            have hkgl : kg < wc.heap.size := lt_of_cell k0
            have hkl0 : (0 : Int) < (d.ks.length : Int) := by omega
            have hkb : ((d.ks.length : Int) == 0) = false := by rw [beq_eq_false_iff_ne]; omega
            have hkb2 : (d.ks.length == 0) = false := by rw [beq_eq_false_iff_ne]; omega
            have hab : (a != a) = false := by simp
            clear hnk hM8
            go_wp2
            go_loopw [13] (fun vk wj => ∃ k : Nat, vk = .int .i64 k ∧ k ≤ d.ks.length ∧ Hid (M w gt wj [.blk g2 #[.int .i64 d.lv, .int .i64 d.lk, .int .i64 d.hi, .slice (some ⟨kg, 0, none⟩) d.ks.length kc2, .slice (some ⟨vg2, 0, none⟩) d.vs.length vc2] 24, .row 3 1 (.slice (some ⟨kg, 0, none⟩) d.ks.length kc2) d.ks.length (ints d.ks), .row 3 1 (.slice (some ⟨vg2, 0, none⟩) d.vs.length vc2) d.vs.length (ints d.vs), .row 3 1 bv mb (ints (natI qs)), .row 3 1 (.slice (some ⟨rg, 0, none⟩) m rc) m (ints (natI ps))])) (fun vk _ => d.ks.length - (intOf vk).toNat)
            case atStart => exact ⟨0, rfl, by omega, HM8.out⟩
            case round =>
              clear HM8 n3 k0 hg2l hkgl
              obtain ⟨k, rfl, hk, hM9⟩ := hrel
              have hk0 : (0 : Int) ≤ (k : Int) := by omega
              have n3 := hM9.out.cell (i := 0) rfl 3 (.slice (some ⟨kg, 0, none⟩) d.ks.length kc2) rfl
              have hg2l : g2 < wr.heap.size := lt_of_cell n3
              by_cases hlk : k < d.ks.length
              · have hk1 : (k : Int) < (d.ks.length : Int) := by omega
                have hkv : k < d.vs.length := by have := HVL.out; omega
                have hk2 : (k : Int) < (d.vs.length : Int) := by omega
                obtain ⟨key, hkey⟩ : ∃ y, d.ks[k]? = some y := ⟨_, List.getElem?_eq_getElem hlk⟩
                obtain ⟨v, hv⟩ : ∃ y, d.vs[k]? = some y := ⟨_, List.getElem?_eq_getElem hkv⟩
                obtain ⟨c', j', hvc, hj1, hj2, hj3⟩ := HCH.out key v (List.mem_iff_getElem?.2 ⟨k, by show (d.ks.zip d.vs)[k]? = _; rw [List.getElem?_zip_eq_some]; exact ⟨hkey, hv⟩⟩)
                subst hvc
                have n4 := hM9.out.cell (i := 0) rfl 4 (.slice (some ⟨vg2, 0, none⟩) d.vs.length vc2) rfl
                have yk := hM9.out.rowCell (i := 1) rfl k (.int .i64 key) (ints_get hkey)
                have yv := hM9.out.rowCell (i := 2) rfl k (.int .i64 c') (ints_get hv)
                have hkgl : kg < wr.heap.size := lt_of_cell yk
                have hvgl : vg2 < wr.heap.size := lt_of_cell yv
                have PL : Hid (∀ W, M w gt W [.blk g2 #[.int .i64 d.lv, .int .i64 d.lk, .int .i64 d.hi, .slice (some ⟨kg, 0, none⟩) d.ks.length kc2, .slice (some ⟨vg2, 0, none⟩) d.vs.length vc2] 24, .row 3 1 (.slice (some ⟨kg, 0, none⟩) d.ks.length kc2) d.ks.length (ints d.ks), .row 3 1 (.slice (some ⟨vg2, 0, none⟩) d.vs.length vc2) d.vs.length (ints d.vs), .row 3 1 bv mb (ints (natI qs)), .row 3 1 (.slice (some ⟨rg, 0, none⟩) m rc) m (ints (natI ps))] → Calls Tryd.prog 114 #[.pointer (some ⟨gw, 0, none⟩), bv, .int .i64 c', .int .i64 key] W fun e w' => e = .returned (.bool true) ∧ Below W.heap.size W w') := fun W hW => by
                  have hb : Below w.heap.size w W := by have := hW.bl; rw [← HGT.out] at this; exact this
                  have hrow := (hW.get (i := 3) rfl).own
                  have hnl : (natI qs).length = mb := by unfold natI; rw [List.length_map]; exact HMB.out
                  rw [← hnl] at hrow
                  refine placed_yes gw tg tc ug uc c' j' mb T U qs bv key W (HP.out.below hb) (owns_rd hrow) HMB.out (by rw [← HMB.out]; exact HQ.out.len) hj1 hj2 ?_
                  rcases hj3 with h0 | ⟨x, hx1, hx2⟩
                  · exact Or.inl h0
                  · exact Or.inr ⟨x, t.nd x, hx1, HS.out x (HQ.out.row.inn x (List.mem_of_getElem? hx1)).1, hx2⟩
                have HKEY := hideIt hkey
                have HV := hideIt hv
                clear hkey hv hj1 hj2 hj3
                go_upto_region 19 with fail
                go_cut [14] from 83 to 104 (fun o wy => o = .bool true ∧ Hid (M w gt wy [.blk g2 #[.int .i64 d.lv, .int .i64 d.lk, .int .i64 d.hi, .slice (some ⟨kg, 0, none⟩) d.ks.length kc2, .slice (some ⟨vg2, 0, none⟩) d.vs.length vc2] 24, .row 3 1 (.slice (some ⟨kg, 0, none⟩) d.ks.length kc2) d.ks.length (ints d.ks), .row 3 1 (.slice (some ⟨vg2, 0, none⟩) d.vs.length vc2) d.vs.length (ints d.vs), .row 3 1 bv mb (ints (natI qs)), .row 3 1 (.slice (some ⟨rg, 0, none⟩) m rc) m (ints (natI ps))]))
                case first =>
                  go_region_held3 (fun W => W.cell? ⟨g2, 3, none⟩ = some (.slice (some ⟨kg, 0, none⟩) d.ks.length kc2) ∧ W.cell? ⟨g2, 4, none⟩ = some (.slice (some ⟨vg2, 0, none⟩) d.vs.length vc2) ∧ W.cell? ⟨kg, k, none⟩ = some (.int .i64 key) ∧ W.cell? ⟨vg2, k, none⟩ = some (.int .i64 c')) (go_keep) ((go_at_call 114; refine (PL.out _ hM9.out.drew).mono ?_; rintro e w9 ⟨rfl, hb9⟩; have H9 := hideIt (hM9.out.drew.below hb9); have z1 := H9.out.cell (i := 0) rfl 3 (.slice (some ⟨kg, 0, none⟩) d.ks.length kc2) rfl; have z2 := H9.out.cell (i := 0) rfl 4 (.slice (some ⟨vg2, 0, none⟩) d.vs.length vc2) rfl; have z3 := H9.out.rowCell (i := 1) rfl k (.int .i64 key) (ints_get HKEY.out); have z4 := H9.out.rowCell (i := 2) rfl k (.int .i64 c') (ints_get HV.out); clear hb9))
                  all_goals
                    go_wp2
                    go_meet
                    case rel => exact ⟨rfl, H9.out⟩
                case rest =>
                  obtain ⟨rfl, hM10⟩ := hcut
                  clear hM9 n3 n4 yk yv hkgl hvgl hg2l PL
                  go_wp2
                  go_roundw
                  case rel => exact ⟨k + 1, by go_num, by omega, hM10.out⟩
                  case measure => simp [intOf]; omega
              · obtain rfl : k = d.ks.length := by omega
                have HM10 := hideIt (hM9.out.sub (l' := [.row 3 1 bv mb (ints (natI qs)), .row 3 1 (.slice (some ⟨rg, 0, none⟩) m rc) m (ints (natI ps))]) (List.sublist_append_right [_, _, _] [_, _]))
                clear hM9
                go_wp2
                go_roundw
                case rel => exact ⟨i + 1, by go_num, by omega, HM10.out⟩
                case measure => simp [intOf]; omega
        · obtain rfl : i = m := by omega
          have HM6 := hideIt (hM.out.sub (l' := [.row 3 1 bv mb (ints (natI qs))]) (List.sublist_append_left [_] [_]))
          have hq0 := HQ.out.row.hd
          have hql : 0 < mb := by rw [← HMB.out]; exact (List.getElem?_eq_some_iff.1 hq0).1
          obtain ⟨bg, bc, hbv⟩ := As.form (hM.out.get (i := 0) rfl) hql
          have yb := hM.out
          rw [hbv] at yb
          have yb0 := yb.rowCell (i := 0) rfl 0 (.int .i64 c) (ints_get (natI_get hq0))
          have HLB := hideIt (rowLv_eq (t := t) (n := mb) (cap := bc) yb0)
          have HBV := hideIt hbv
          clear hM yb yb0 hq0 hbv
          go_wp2
          go_roundw
          case rel => exact ⟨c, qs, HQ.out, by rw [HMB.out]; exact HM6.out⟩
          case measure =>
            have h1 := HLV.out
            have h2 := HLB.out
            rw [← HBV.out] at h2
            have h3 := HC2.out
            show rowLv t bv _ < rowLv t _ _
            rw [h2, h1]
            omega
theorem fit_ks {n : Nd} {x : Int} (h : ∀ k ∈ n.ks, x ≤ k) : n.ks = [] ∨ x ≤ n.ks[0]?.getD 0 := by
  cases hk : n.ks with
  | nil => exact Or.inl rfl
  | cons a r => exact Or.inr (h a (by rw [hk]; simp))
theorem link_fit {t : Tre} (h : t.Ok) {p : Nat} (hp : t.inn p) : (t.nd p).lk = -1 ∨ ∃ q : Nat, (t.nd p).lk = (q : Int) ∧ t.inn q ∧ (t.nd q).lv = (t.nd p).lv ∧ (t.nd p).hi < (t.nd q).hi ∧ ((t.nd q).ks = [] ∨ (t.nd p).hi ≤ (t.nd q).ks[0]?.getD 0) := by
  by_cases hh : (t.nd p).hi = 10000
  · left
    have h1 := h.rt p hp
    simp only [rightB, Bool.and_eq_true] at h1
    have h2 := h1.2.2.1
    unfold endOk at h2
    rw [if_pos hh] at h2
    exact of_decide_eq_true h2
  · obtain ⟨q, h1, h2, h3, h4⟩ := h.lnk p hp hh
    refine Or.inr ⟨q, h1, h2, h4, ?_, fit_ks fun k hk => by rw [← h3]; exact h.ks q h2 k hk⟩
    rw [← h3]; exact (h.lo q h2).2
theorem child_fit {t : Tre} (h : t.Ok) {p : Nat} (hp : t.inn p) (hl : 0 < (t.nd p).lv) {key v : Int} (he : (key, v) ∈ ent (t.nd p)) : ∃ q : Nat, v = (q : Int) ∧ t.inn q ∧ (t.nd q).lv = (t.nd p).lv - 1 ∧ key < (t.nd q).hi ∧ ((t.nd q).ks = [] ∨ key ≤ (t.nd q).ks[0]?.getD 0) := by
  obtain ⟨q, h1, h2, h3, h4⟩ := h.chd p hp hl _ he
  have h3' : t.low q = key := h3
  refine ⟨q, h1, h2, by omega, ?_, fit_ks fun k hk => by rw [← h3']; exact h.ks q h2 k hk⟩
  rw [← h3']; exact (h.lo q h2).2
theorem leaf_first {t : Tre} (h : t.Ok) : ∃ (p : Nat) (ps : List Nat), (t.nd p).lv = 0 ∧ LvR t p ps := by
  have key : ∀ (n : Nat) (p : Nat) (ps : List Nat), LvR t p ps → (t.nd p).lv.toNat = n → ∃ (p : Nat) (ps : List Nat), (t.nd p).lv = 0 ∧ LvR t p ps := by
    intro n
    induction n using Nat.strongRecOn with
    | ind n ih =>
      intro p ps L hn
      have h0 := (right_bd _ (h.rt p L.inn)).1
      by_cases hl : 0 < (t.nd p).lv
      · obtain ⟨c, qs, -, h2, h3⟩ := L.down h hl
        have hc := (right_bd _ (h.rt c h3.inn)).1
        exact ih _ (by omega) c qs h3 rfl
      · exact ⟨p, ps, by omega, L⟩
  exact key _ 0 [0] (LvR.first h) rfl
def cntL (bn : List Bool) : Nat := sumN (fun q => if bn[q]? = some true then 1 else 0) 64
def cntB (gb : Nat) (w : World) : Nat := sumN (fun q => match w.cell? ⟨gb, q, none⟩ with | some (.bool true) => 1 | _ => 0) 64
theorem sumN_le {f : Nat → Nat} {n : Nat} (h : ∀ q, f q ≤ 1) : sumN f n ≤ n := by
  induction n with
  | zero => exact Nat.le_refl _
  | succ n ih => unfold sumN; have := h n; omega
theorem cntL_le (bn : List Bool) : cntL bn ≤ 64 := sumN_le fun q => by split <;> omega
theorem cntL_set {bn : List Bool} {p : Nat} (hl : bn.length = 64) (hp : p < 64) (hb : bn[p]? = some false) : cntL (bn.set p true) = cntL bn + 1 := by
  have h1 := sumN_upd (fun q => if bn[q]? = some true then 1 else 0) p 1 64 hp
  have h2 : cntL (bn.set p true) = sumN (fun q => if q = p then 1 else if bn[q]? = some true then 1 else 0) 64 := by
    unfold cntL
    refine sumN_congr fun q _ => ?_
    by_cases e : q = p
    · subst e
      rw [List.getElem?_set_self (by omega), if_pos rfl, if_pos rfl]
    · rw [List.getElem?_set_ne (Ne.symm e), if_neg e]
  have h3 : (if bn[p]? = some true then 1 else 0 : Nat) = 0 := by rw [hb, if_neg (by decide)]
  unfold cntL at h2 ⊢
  rw [h3] at h1
  omega
theorem cntB_eq {gb : Nat} {w : World} {bn : List Bool} (hl : bn.length = 64) (h : ∀ (q : Nat) (b : Bool), bn[q]? = some b → w.cell? ⟨gb, q, none⟩ = some (.bool b)) : cntB gb w = cntL bn := by
  unfold cntB cntL
  refine sumN_congr fun q hq => ?_
  obtain ⟨b, hb⟩ : ∃ b, bn[q]? = some b := ⟨_, List.getElem?_eq_getElem (by omega)⟩
  rw [h q b hb, hb]
  cases b <;> rfl
theorem ownsRow_cap {w : World} {B : Nat} {e : TypeId} {z g n cap : Nat} {xs : List Value} (h : w.ownsRow B e z (.slice (some ⟨g, 0, none⟩) n cap) n xs) : n ≤ cap := by
  rcases h.2 with ⟨h1, -⟩ | ⟨g', cap', cur, h1, -, -, h2, -⟩
  · cases h1
  · cases h1; exact h2
def lenOfS (v : Value) : Nat := match v with | .slice _ l _ => l | _ => 0
theorem natI_take (td : List Nat) (n : Nat) : (natI td).take n = natI (td.take n) := by unfold natI; rw [List.map_take]
theorem natI_snoc (td : List Nat) (q : Nat) : ints (natI (td ++ [q])) = ints (natI td) ++ [.int .i64 q] := by unfold natI ints; simp
set_option maxRecDepth 100000 in
set_option maxHeartbeats 6400000 in
theorem stands_yes (gw tg tc ug uc : Nat) (T : List ByteArray) (U : List Bool) (t : Tre) (w : World) (ht : t.Ok) (hul : U.length = 64) (hsay : ∀ p, t.inn p → Says T U p (t.nd p)) (hus : ∀ p : Nat, U[p]? = some true → ∃ n, Says T U p n) (h : PgR gw tg tc ug uc T U w) :
    Calls Tryd.prog 84 #[.pointer (some ⟨gw, 0, none⟩)] w fun e w' => e = .returned (.bool true) ∧ Below w.heap.size w w' := by
  obtain ⟨i0, hi0, hz0, hz1, hz2⟩ := info_parts infoInt
  have HP := hideIt h
  have HS := hideIt hsay
  have HT := hideIt ht
  have HUL := hideIt hul
  have HUS := hideIt hus
  have hmk : ∀ W, (Instr.makeSlice 53 (.int .i64 64) (.int .i64 64)).run Tryd.prog W = .ok (.slice (some ⟨W.heap.size, 0, none⟩) 64 64) (W.alloc (.cells (bools (List.replicate 64 false)).toArray 4)) := fun _ => by kernel_rfl
  have HMK := hideIt hmk
  clear h hsay ht hul hus hmk
  go_enter Tryd.func84, Tryd.ntmps84
  go_wp2
  go_loopw [3] (fun vp wr => ∃ p : Nat, vp = .int .i64 p ∧ p ≤ 64 ∧ Hid (Below w.heap.size w wr)) (fun vp _ => 64 - (intOf vp).toNat)
  case atStart => exact ⟨0, rfl, by omega, Below.refl _ _⟩
  case round =>
    obtain ⟨p, rfl, hp, hB⟩ := hrel
    have hP := HP.out.below hB.out
    have HPW := hideIt hP
    obtain ⟨c0, c1, c2⟩ := hP
    have hgl : gw < wr.heap.size := lt_of_cell c1
    have hp0 : (0 : Int) ≤ (p : Int) := by omega
    by_cases hlt : p < 64
    · have hp1 : (p : Int) < 64 := by omega
      obtain ⟨tx, b, a1, a2, a3, a4⟩ := c2 p hlt
      clear c0 c2 a3
      cases b with
      | true =>
        obtain ⟨n, hn⟩ := HUS.out p a2
        have CS := hideIt (says_yes gw tg tc ug uc p T U n wr HPW.out hn)
        clear hn a1 a2 a4
        go_wp2_with fail
        refine CS.out.mono ?_
        rintro e w1 ⟨kv1, vv1, rfl, hM1⟩
        obtain ⟨ka, kc, rfl⟩ := As.form0 (hM1.get (i := 0) rfl)
        obtain ⟨va, vc, rfl⟩ := As.form0 (hM1.get (i := 1) rfl)
        have HB2 := hideIt (step hB.out (hM1.alloc #[.int .i64 n.lv, .int .i64 n.lk, .int .i64 n.hi, .slice ka n.ks.length kc, .slice va n.vs.length vc] 24).bl)
        obtain ⟨W, hW⟩ : ∃ W, w1.alloc (.cells #[.int .i64 n.lv, .int .i64 n.lk, .int .i64 n.hi, .slice ka n.ks.length kc, .slice va n.vs.length vc] 24) = W := ⟨_, rfl⟩
        rw [hW] at HB2
        have HW := hideIt hW
        clear c1 hgl
        obtain ⟨c0, c1, c2⟩ := HP.out.below HB2.out
        obtain ⟨tx, b, a1, a2, a3, a4⟩ := c2 p hlt
        clear CS hM1 hW c0 c2 a3
        go_upto_region 5 with fail
        rw [HW.out]
        have hgl : gw < W.heap.size := lt_of_cell c1
        have hugl : ug < W.heap.size := lt_of_cell a4
        clear HW a1 a2
        cases b
        all_goals
          go_wp2
          go_roundw
          case rel => exact ⟨p + 1, by go_num, by omega, HB2.out⟩
          case measure => simp [intOf]; omega
      | false =>
        have CS := hideIt (says_no gw tg tc ug uc p T U wr HPW.out hlt a2)
        have HA2 := hideIt a2
        clear a1 a2 a4
        go_wp2_with fail
        refine CS.out.mono ?_
        rintro e w1 ⟨rfl, hb1⟩
        have HB2 := hideIt (step hB.out (step hb1 ((Below.refl w1.heap.size w1).alloc (Nat.le_refl _) (.cells #[.int .i64 0, .int .i64 0, .int .i64 0, .slice none 0 0, .slice none 0 0] 24))))
        obtain ⟨W, hW⟩ : ∃ W, w1.alloc (.cells #[.int .i64 0, .int .i64 0, .int .i64 0, .slice none 0 0, .slice none 0 0] 24) = W := ⟨_, rfl⟩
        rw [hW] at HB2
        have HW := hideIt hW
        clear c1 hgl
        obtain ⟨c0, c1, c2⟩ := HP.out.below HB2.out
        obtain ⟨tx, b, a1, a2, a3, a4⟩ := c2 p hlt
        have hbf : b = false := by have := HA2.out; rw [a2] at this; exact Option.some.inj this
        subst hbf
        clear CS hb1 hW c0 c2 a3 HA2
        go_upto_region 5 with fail
        rw [HW.out]
        have hgl : gw < W.heap.size := lt_of_cell c1
        have hugl : ug < W.heap.size := lt_of_cell a4
        clear HW a1 a2
        go_wp2
        go_roundw
        case rel => exact ⟨p + 1, by go_num, by omega, HB2.out⟩
        case measure => simp [intOf]; omega
    · obtain rfl : p = 64 := by omega
      have CS := hideIt (says_yes gw tg tc ug uc 0 T U (t.nd 0) wr HPW.out (HS.out 0 HT.out.r0))
      have hh0 := HT.out.h0
      obtain ⟨n, hn⟩ : ∃ n, t.nd 0 = n := ⟨_, rfl⟩
      rw [hn] at CS hh0
      have HH0 := hideIt hh0
      clear c0 c2 hn hh0
      rw [show ((64 : Nat) : Int) = 64 from rfl]
      go_wp2_with fail
      refine CS.out.mono ?_
      rintro e w1 ⟨kv1, vv1, rfl, hM1⟩
      obtain ⟨ka, kc, rfl⟩ := As.form0 (hM1.get (i := 0) rfl)
      obtain ⟨va, vc, rfl⟩ := As.form0 (hM1.get (i := 1) rfl)
      have A1 := hM1.alloc #[.int .i64 n.lv, .int .i64 n.lk, .int .i64 n.hi, .slice ka n.ks.length kc, .slice va n.vs.length vc] 24
      have HB2 := hideIt (step hB.out A1.bl)
      obtain ⟨gn, hgn⟩ : ∃ g, w1.heap.size = g := ⟨_, rfl⟩
      obtain ⟨W, hW⟩ : ∃ W, w1.alloc (.cells #[.int .i64 n.lv, .int .i64 n.lk, .int .i64 n.hi, .slice ka n.ks.length kc, .slice va n.vs.length vc] 24) = W := ⟨_, rfl⟩
      rw [hW] at HB2 A1
      rw [hgn] at A1
      have HW := hideIt hW
      have HGN := hideIt hgn
      have n2 := A1.cell (i := 0) rfl 2 (.int .i64 n.hi) rfl
      rw [HH0.out] at n2
      have hgnl : gn < W.heap.size := lt_of_cell n2
      clear CS hM1 hW A1 hgn hgl c1
      go_upto_region 8 with fail
      rw [HW.out, HGN.out]
      clear HW HGN
      have hmk := HMK.out
      have A2 : Hid (M w w.heap.size ((W.alloc (.cells (bools (List.replicate 64 false)).toArray 4)).alloc (.cells #[.int .i64 0] 3)) [.row 3 1 (.slice (some ⟨(W.alloc (.cells (bools (List.replicate 64 false)).toArray 4)).heap.size, 0, none⟩) 1 1) [0].length (ints (natI [0])), .row 4 1 (.slice (some ⟨W.heap.size, 0, none⟩) 64 64) 64 (bools (List.replicate 64 false))]) := M.blkRow ((M.blkRow (((M.start w).below HB2.out).alloc (bools (List.replicate 64 false)).toArray 4) (by decide)).alloc #[.int .i64 0] 3) (by decide)
      have HSZ : Hid ((W.alloc (.cells (bools (List.replicate 64 false)).toArray 4)).heap.size = W.heap.size + 1) := by unfold Hid; simp
      rw [HSZ.out] at A2
      go_wp2
      obtain ⟨gt, hgt⟩ : ∃ g, w.heap.size = g := ⟨_, rfl⟩
      have HGT := hideIt hgt
      rw [hgt] at A2
      obtain ⟨gb, hgb⟩ : ∃ g, W.heap.size = g := ⟨_, rfl⟩
      rw [hgb] at A2 ⊢
      clear hgt hgb HSZ hmk n2 hgnl
      go_loopw [9] (fun tv wr => ∃ (td : List Nat) (bn : List Bool), Hid (∀ p ∈ td, t.inn p) ∧ Hid (bn.length = 64 ∧ td.length ≤ 1 + 7 * cntL bn) ∧ Hid (M w gt wr [.row 3 1 tv td.length (ints (natI td)), .row 4 1 (.slice (some ⟨gb, 0, none⟩) 64 64) 64 (bools bn)])) (fun tv wr => 8 * (64 - cntB gb wr) + lenOfS tv)
      case atStart =>
        refine ⟨[0], List.replicate 64 false, fun p hp => ?_, ⟨List.length_replicate, ?_⟩, A2.out⟩
        · rw [List.mem_singleton] at hp; rw [hp]; exact HT.out.r0
        · show 1 ≤ _; omega
      case round =>
        clear A2
        obtain ⟨td, bn, hin, hbn, hM⟩ := hrel
        have HCB : Hid (cntB gb wr = cntL bn) := cntB_eq hbn.out.1 fun q b hq => hM.out.rowCell (i := 1) rfl q (.bool b) (bools_get hq)
        have hc64 := cntL_le bn
        have HB3 : Hid (Below w.heap.size w wr) := by have := hM.out.bl; rw [← HGT.out] at this; exact this
        rcases List.eq_nil_or_concat td with rfl | ⟨td', p, rfl⟩
        · obtain ⟨ta, tcap, rfl⟩ := As.form0 (hM.out.get (i := 0) rfl)
          obtain ⟨p0, ps, hl0, hL⟩ := leaf_first HT.out
          have hRw := hL.row
          rw [hl0] at hRw
          have CR := hideIt (row_yes gw tg tc ug uc p0 T U t ps wr (HP.out.below HB3.out) HT.out HS.out hRw hL.low hL.len)
          clear hM hin hbn HCB hRw hL hl0
          rw [show ([] : List Nat).length = 0 from rfl]
          go_wp2_with fail
          refine CR.out.mono ?_
          rintro e w5 ⟨gt5, kv5, vv5, rfl, hM5⟩
          have HB4 := hideIt (step HB3.out hM5.bl)
          have CW := hideIt (rows_yes gw tg tc ug uc T U t w5 (HP.out.below HB4.out) HT.out HS.out)
          clear CR hM5
          go_wp2_with fail
          refine CW.out.mono ?_
          rintro e w6 ⟨rfl, hb6⟩
          have HB5 := hideIt (step HB4.out hb6)
          clear CW hb6
          go_wp2
          go_ret
          exact ⟨rfl, HB5.out⟩
        · rw [List.concat_eq_append] at hin hM hbn
          have hpi := hin.out p (by simp)
          have HIN2 : Hid (∀ q ∈ td', t.inn q) := fun q hq => hin.out q (by simp [hq])
          rw [List.length_append, List.length_singleton] at hM hbn
          obtain ⟨n1, hn1⟩ : ∃ n, td'.length = n := ⟨_, rfl⟩
          have HN1 := hideIt hn1
          rw [hn1] at hM hbn
          obtain ⟨g, cap, rfl⟩ := As.form (hM.out.get (i := 0) rfl) (by omega)
          have yp := hM.out.rowCell (i := 0) rfl n1 (.int .i64 p) (ints_get (natI_get (by rw [List.getElem?_append_right (by omega), hn1, Nat.sub_self]; rfl)))
          have hMp := hM.out.pop (i := 0) rfl (by unfold natI; rw [List.length_map, List.length_append, List.length_singleton, hn1])
          rw [natI_take, List.take_append_of_le_length (by omega), List.take_of_length_le (by omega)] at hMp
          have HMp : Hid (M w gt wr [.row 3 1 (.slice (some ⟨g, 0, none⟩) n1 cap) n1 (ints (natI td')), .row 4 1 (.slice (some ⟨gb, 0, none⟩) 64 64) 64 (bools bn)]) := hMp
          have hp64 := HT.out.lt p hpi
          have hp0 : (0 : Int) ≤ (p : Int) := by omega
          have hp1 : (p : Int) < 64 := by omega
          have hn0 : (0 : Int) < (n1 : Int) + 1 := by omega
          have hn2 : (0 : Int) ≤ (n1 : Int) := by omega
          have hn450 : n1 ≤ 449 := by have := hbn.out.2; omega
          have hcap : n1 + 1 ≤ cap := by
            have := (hM.out.get (i := 0) rfl).own
            exact ownsRow_cap this
          have hcap1 : (n1 : Int) ≤ (cap : Int) := by omega
          obtain ⟨b, hb⟩ : ∃ b, bn[p]? = some b := ⟨_, List.getElem?_eq_getElem (by rw [hbn.out.1]; exact hp64)⟩
          have b0 := HMp.out.rowCell (i := 1) rfl p (.bool b) (bools_get hb)
          have hgl : g < wr.heap.size := lt_of_cell yp
          have hgbl : gb < wr.heap.size := lt_of_cell b0
          have HPI := hideIt hpi
          have HBB := hideIt hb
          clear hpi hM hMp hin hb hn1
          cases b with
          | true =>
            go_wp2
            go_roundw
            case rel => exact ⟨td', bn, HIN2.out, ⟨hbn.out.1, by rw [HN1.out]; have := hbn.out.2; omega⟩, by rw [HN1.out]; exact HMp.out⟩
            case measure => simp [lenOfS]
          | false =>
            have fz := World.ownsRow.frozenAt (HMp.out.get (i := 1) rfl).own p
            have S1 := HMp.out.storeRow (i := 1) (j := p) rfl (.bool true)
            obtain ⟨w2, hw2⟩ : ∃ W2, wr.setCell ⟨gb, p, none⟩ (.bool true) = W2 := ⟨_, rfl⟩
            rw [hw2, bools_setx] at S1
            have HS1 : Hid (M w gt w2 [.row 3 1 (.slice (some ⟨g, 0, none⟩) n1 cap) n1 (ints (natI td')), .row 4 1 (.slice (some ⟨gb, 0, none⟩) 64 64) 64 (bools (bn.set p true))]) := S1
            have HW2 := hideIt hw2
            have hbl2 : Below w.heap.size w w2 := by have := HS1.out.bl; rw [← HGT.out] at this; exact this
            have CS := hideIt (says_yes gw tg tc ug uc p T U (t.nd p) w2 (HP.out.below hbl2) (HS.out p HPI.out))
            have HLF := hideIt (link_fit HT.out HPI.out)
            have HCF : Hid (0 < (t.nd p).lv → ∀ key v, (key, v) ∈ ent (t.nd p) → ∃ q : Nat, v = (q : Int) ∧ t.inn q ∧ (t.nd q).lv = (t.nd p).lv - 1 ∧ key < (t.nd q).hi ∧ ((t.nd q).ks = [] ∨ key ≤ (t.nd q).ks[0]?.getD 0)) := fun hl key v he => child_fit HT.out HPI.out hl he
            have hrd := right_bd _ (HT.out.rt p HPI.out)
            obtain ⟨d, hd⟩ : ∃ d, t.nd p = d := ⟨_, rfl⟩
            rw [hd] at CS HLF HCF hrd
            have HVL : Hid (d.ks.length = d.vs.length) := hrd.2.2.2.1
            have hk6 : d.ks.length ≤ 6 := hrd.2.2.2.2.1
            have HLV0 := hideIt hrd.1
            have HLV9 : Hid (d.lv ≤ 9) := hrd.2.1
            have HB6 : Hid ((bn.set p true).length = 64 ∧ cntL (bn.set p true) = cntL bn + 1) := ⟨by rw [List.length_set]; exact hbn.out.1, cntL_set hbn.out.1 hp64 HBB.out⟩
            clear hd hrd hw2 S1 hbl2 HMp
            go_upto_region 17 with fail
            rw [HW2.out]
            clear HW2 yp b0 fz hgl hgbl
            go_wp2_with fail
            refine CS.out.mono ?_
            rintro e w3 ⟨kv3, vv3, rfl, hM3⟩
            obtain ⟨ka2, kc2, rfl⟩ := As.form0 (hM3.get (i := 0) rfl)
            obtain ⟨va2, vc2, rfl⟩ := As.form0 (hM3.get (i := 1) rfl)
            have HM4 := hideIt ((HS1.out.join hM3).alloc #[.int .i64 d.lv, .int .i64 d.lk, .int .i64 d.hi, .slice ka2 d.ks.length kc2, .slice va2 d.vs.length vc2] 24)
            obtain ⟨gn, hgn⟩ : ∃ g, w3.heap.size = g := ⟨_, rfl⟩
            obtain ⟨w4, hw4⟩ : ∃ W4, w3.alloc (.cells #[.int .i64 d.lv, .int .i64 d.lk, .int .i64 d.hi, .slice ka2 d.ks.length kc2, .slice va2 d.vs.length vc2] 24) = W4 := ⟨_, rfl⟩
            have HW4 := hideIt hw4
            have HGN := hideIt hgn
            rw [hw4, hgn] at HM4
            clear CS hM3 HS1 hw4 hgn
            go_upto_region 18 with fail
            rw [HW4.out, HGN.out]
            clear HW4 HGN
            have m0 := HM4.out.cell (i := 0) rfl 0 (.int .i64 d.lv) rfl
            have m1 := HM4.out.cell (i := 0) rfl 1 (.int .i64 d.lk) rfl
            have m2 := HM4.out.cell (i := 0) rfl 2 (.int .i64 d.hi) rfl
            have hgnl : gn < w4.heap.size := lt_of_cell m0
            go_upto_if 83 with fail
            go_cut [9, 13] from 54 to 142 (fun tv _ wy => ∃ td2, Hid (∀ q ∈ td2, t.inn q) ∧ Hid (td2.length ≤ n1 + 1) ∧ Hid (M w gt wy [.blk gn #[.int .i64 d.lv, .int .i64 d.lk, .int .i64 d.hi, .slice ka2 d.ks.length kc2, .slice va2 d.vs.length vc2] 24, .row 3 1 (.slice ka2 d.ks.length kc2) d.ks.length (ints d.ks), .row 3 1 (.slice va2 d.vs.length vc2) d.vs.length (ints d.vs), .row 3 1 tv td2.length (ints (natI td2)), .row 4 1 (.slice (some ⟨gb, 0, none⟩) 64 64) 64 (bools (bn.set p true))]))
            case first =>
              rcases HLF.out with hlk | ⟨q, hlk, hq1, hq2, hq3, hq4⟩
              · have hb1 : (d.lk != -1) = false := by simp [hlk]
                clear hlk
                go_wp2
                go_meet
                case rel => exact ⟨td', HIN2.out, by unfold Hid; rw [HN1.out]; omega, by rw [HN1.out]; exact HM4.out⟩
              · have hb1 : (d.lk != -1) = true := by simp [hlk]
                have hbl4 : Below w.heap.size w w4 := by have := HM4.out.bl; rw [← HGT.out] at this; exact this
                have CF := hideIt (fitted_yes gw tg tc ug uc q T U (t.nd q) d.hi d.hi w4 (HP.out.below hbl4) (HS.out q hq1) hq3 hq4)
                rw [hq2, ← hlk] at CF
                have HSN : Hid (ints (natI (td' ++ [q])) = ints (natI td') ++ [.int .i64 d.lk]) := by unfold Hid; rw [natI_snoc, hlk]
                have HQ1 : Hid (∀ x ∈ td' ++ [q], t.inn x) := fun x hx => by
                  rcases List.mem_append.1 hx with h1 | h1
                  · exact HIN2.out x h1
                  · rw [List.mem_singleton] at h1; rw [h1]; exact hq1
                have HLQ : Hid ((td' ++ [q]).length = n1 + 1) := by unfold Hid; rw [List.length_append, List.length_singleton, HN1.out]
                clear hlk hq1 hq2 hq3 hq4 hbl4
                go_wp2_with fail
                refine CF.out.mono ?_
                rintro e w5 ⟨rfl, hb5⟩
                have HM5 := hideIt (HM4.out.below hb5)
                clear CF hb5 m0 m1 m2 hgnl
                have m1 := HM5.out.cell (i := 0) rfl 1 (.int .i64 d.lk) rfl
                have hgnl : gn < w5.heap.size := lt_of_cell m1
                go_wp2_with (at_builtin; refine wpList_append_lies _ rfl _ _ 22 rfl gt 3 i0 (.int .i64 0) 1 8 Tryd.underlying22 hi0 hz0 hz1 hz2 rfl (by decide) _ n1 (ints (natI td')) rfl (World.ownsRow.alloc (HM5.out.get (i := 3) rfl).own _) ⟨_, 0, none⟩ 1 1 [.int .i64 d.lk] rfl rfl (by have := news_one w5 (.int .i64 d.lk) 3; simpa using this) (by simp [Value.oneCell']) (by omega) (by unfold maxLen; omega) (by omega) (by have := HM5.out.sz; simp at this ⊢; omega) _ rfl ?_; intro g1 cap1 w6 hown hgrow hat hlt1; rw [← HSN.out] at hown; have H1 := hideIt ((HM5.out.allocd _).lies (i := 3) rfl hown hgrow hat); clear hown hgrow hat)
                go_meet
                case rel => exact ⟨td' ++ [q], HQ1.out, by unfold Hid; rw [HLQ.out]; omega, by rw [HLQ.out]; exact H1.out⟩
            case rest =>
              obtain ⟨td2, hin2, hl2, hM6⟩ := hcut
              have HM6 := hideIt hM6.out
              clear HM4 m0 m1 m2 hgnl hM6
              go_wp2
              go_loopw [9, 14] (fun tv vi wr => ∃ (td3 : List Nat) (i : Nat), vi = .int .i64 i ∧ i ≤ d.ks.length ∧ Hid (∀ q ∈ td3, t.inn q) ∧ Hid (td3.length ≤ n1 + 1 + i) ∧ Hid (M w gt wr [.blk gn #[.int .i64 d.lv, .int .i64 d.lk, .int .i64 d.hi, .slice ka2 d.ks.length kc2, .slice va2 d.vs.length vc2] 24, .row 3 1 (.slice ka2 d.ks.length kc2) d.ks.length (ints d.ks), .row 3 1 (.slice va2 d.vs.length vc2) d.vs.length (ints d.vs), .row 3 1 tv td3.length (ints (natI td3)), .row 4 1 (.slice (some ⟨gb, 0, none⟩) 64 64) 64 (bools (bn.set p true))])) (fun _ vi _ => d.ks.length - (intOf vi).toNat)
              case atStart => exact ⟨td2, 0, rfl, by omega, hin2.out, hl2.out, HM6.out⟩
              case round =>
                clear HM6
                obtain ⟨td3, i, rfl, hi, hin3, hl3, hM7⟩ := hrel
                have hin0 : (0 : Int) ≤ (i : Int) := by omega
                have m0 := hM7.out.cell (i := 0) rfl 0 (.int .i64 d.lv) rfl
                have m3 := hM7.out.cell (i := 0) rfl 3 (.slice ka2 d.ks.length kc2) rfl
                have hgnl : gn < wr.heap.size := lt_of_cell m0
                obtain ⟨n3, hn3⟩ : ∃ n, td3.length = n := ⟨_, rfl⟩
                have HN3 := hideIt hn3
                rw [hn3] at hM7 hl3
                have hl3' := hl3.out
                clear hn3
                by_cases hgo : 0 < d.lv ∧ i < d.ks.length
                · obtain ⟨hlv, hik⟩ := hgo
                  have hlv9 := HLV9.out
                  have hi1 : (i : Int) < (d.ks.length : Int) := by omega
                  have hkv : i < d.vs.length := by have := HVL.out; omega
                  have hi2 : (i : Int) < (d.vs.length : Int) := by omega
                  obtain ⟨key, hkey⟩ : ∃ y, d.ks[i]? = some y := ⟨_, List.getElem?_eq_getElem hik⟩
                  obtain ⟨v, hv⟩ : ∃ y, d.vs[i]? = some y := ⟨_, List.getElem?_eq_getElem hkv⟩
                  obtain ⟨q, hvq, hq1, hq2, hq3, hq4⟩ := HCF.out hlv key v (List.mem_iff_getElem?.2 ⟨i, by show (d.ks.zip d.vs)[i]? = _; rw [List.getElem?_zip_eq_some]; exact ⟨hkey, hv⟩⟩)
                  subst hvq
                  obtain ⟨kg, kc', hka⟩ := As.form (hM7.out.get (i := 1) rfl) (by omega)
                  cases hka
                  obtain ⟨vg, vc', hva⟩ := As.form (hM7.out.get (i := 2) rfl) (by omega)
                  cases hva
                  obtain ⟨ta, tcap, rfl⟩ := As.form0 (hM7.out.get (i := 3) rfl)
                  have m4 := hM7.out.cell (i := 0) rfl 4 (.slice (some ⟨vg, 0, none⟩) d.vs.length vc2) rfl
                  have yk := hM7.out.rowCell (i := 1) rfl i (.int .i64 key) (ints_get hkey)
                  have yv := hM7.out.rowCell (i := 2) rfl i (.int .i64 q) (ints_get hv)
                  have hkgl : kg < wr.heap.size := lt_of_cell yk
                  have hvgl : vg < wr.heap.size := lt_of_cell yv
                  have HKEY := hideIt hkey
                  have HV := hideIt hv
                  have PL : Hid (∀ W, M w gt W [.blk gn #[.int .i64 d.lv, .int .i64 d.lk, .int .i64 d.hi, .slice (some ⟨kg, 0, none⟩) d.ks.length kc2, .slice (some ⟨vg, 0, none⟩) d.vs.length vc2] 24, .row 3 1 (.slice (some ⟨kg, 0, none⟩) d.ks.length kc2) d.ks.length (ints d.ks), .row 3 1 (.slice (some ⟨vg, 0, none⟩) d.vs.length vc2) d.vs.length (ints d.vs), .row 3 1 (.slice ta n3 tcap) n3 (ints (natI td3)), .row 4 1 (.slice (some ⟨gb, 0, none⟩) 64 64) 64 (bools (bn.set p true))] → Calls Tryd.prog 102 #[.pointer (some ⟨gw, 0, none⟩), .int .i64 q, .int .i64 (IntKind.i64.wrap (d.lv - 1)), .int .i64 key, .int .i64 key] W fun e w' => e = .returned (.bool true) ∧ Below W.heap.size W w') := fun W hW => by
                    have hb : Below w.heap.size w W := by have := hW.bl; rw [← HGT.out] at this; exact this
                    have := fitted_yes gw tg tc ug uc q T U (t.nd q) key key W (HP.out.below hb) (HS.out q hq1) hq3 hq4
                    rw [hq2] at this
                    rw [Go.IntWalk.i64_in (d.lv - 1) (by omega)]
                    exact this
                  have HQ1 : Hid (∀ x ∈ td3 ++ [q], t.inn x) := fun x hx => by
                    rcases List.mem_append.1 hx with h1 | h1
                    · exact hin3.out x h1
                    · rw [List.mem_singleton] at h1; rw [h1]; exact hq1
                  have HLQ : Hid ((td3 ++ [q]).length = n3 + 1) := by unfold Hid; rw [List.length_append, List.length_singleton, HN3.out]
                  have HSN : Hid (ints (natI (td3 ++ [q])) = ints (natI td3) ++ [.int .i64 q]) := natI_snoc td3 q
                  clear hkey hv hq1 hq2 hq3 hq4 hl3
                  go_upto_region 26 with fail
                  go_cut [15] from 101 to 142 (fun o wy => o = .bool true ∧ Hid (M w gt wy [.blk gn #[.int .i64 d.lv, .int .i64 d.lk, .int .i64 d.hi, .slice (some ⟨kg, 0, none⟩) d.ks.length kc2, .slice (some ⟨vg, 0, none⟩) d.vs.length vc2] 24, .row 3 1 (.slice (some ⟨kg, 0, none⟩) d.ks.length kc2) d.ks.length (ints d.ks), .row 3 1 (.slice (some ⟨vg, 0, none⟩) d.vs.length vc2) d.vs.length (ints d.vs), .row 3 1 (.slice ta n3 tcap) n3 (ints (natI td3)), .row 4 1 (.slice (some ⟨gb, 0, none⟩) 64 64) 64 (bools (bn.set p true))]))
                  case first =>
                    go_region_held3 (fun W => W.cell? ⟨gn, 0, none⟩ = some (.int .i64 d.lv) ∧ W.cell? ⟨gn, 3, none⟩ = some (.slice (some ⟨kg, 0, none⟩) d.ks.length kc2) ∧ W.cell? ⟨gn, 4, none⟩ = some (.slice (some ⟨vg, 0, none⟩) d.vs.length vc2) ∧ W.cell? ⟨kg, i, none⟩ = some (.int .i64 key) ∧ W.cell? ⟨vg, i, none⟩ = some (.int .i64 q)) (go_keep) ((go_at_call 102; refine (PL.out _ hM7.out.drew).mono ?_; rintro e w9 ⟨rfl, hb9⟩; have H9 := hideIt (hM7.out.drew.below hb9); have z0 := H9.out.cell (i := 0) rfl 0 (.int .i64 d.lv) rfl; have z1 := H9.out.cell (i := 0) rfl 3 (.slice (some ⟨kg, 0, none⟩) d.ks.length kc2) rfl; have z2 := H9.out.cell (i := 0) rfl 4 (.slice (some ⟨vg, 0, none⟩) d.vs.length vc2) rfl; have z3 := H9.out.rowCell (i := 1) rfl i (.int .i64 key) (ints_get HKEY.out); have z4 := H9.out.rowCell (i := 2) rfl i (.int .i64 q) (ints_get HV.out); clear hb9))
                    all_goals
                      go_wp2
                      go_meet
                      case rel => exact ⟨rfl, H9.out⟩
                  case rest =>
                    obtain ⟨rfl, hM8⟩ := hcut
                    clear hM7 m0 m3 m4 yk yv hkgl hvgl hgnl PL
                    have m4 := hM8.out.cell (i := 0) rfl 4 (.slice (some ⟨vg, 0, none⟩) d.vs.length vc2) rfl
                    have yv := hM8.out.rowCell (i := 2) rfl i (.int .i64 q) (ints_get HV.out)
                    have hgnl : gn < wc.heap.size := lt_of_cell m4
                    have hvgl : vg < wc.heap.size := lt_of_cell yv
                    go_wp2_with (at_builtin; refine wpList_append_lies _ rfl _ _ 22 rfl gt 3 i0 (.int .i64 0) 1 8 Tryd.underlying22 hi0 hz0 hz1 hz2 rfl (by decide) _ n3 (ints (natI td3)) rfl (World.ownsRow.alloc (hM8.out.get (i := 3) rfl).own _) ⟨_, 0, none⟩ 1 1 [.int .i64 q] rfl rfl (by have := news_one wc (.int .i64 q) 3; simpa using this) (by simp [Value.oneCell']) (by omega) (by unfold maxLen; omega) (by omega) (by have := hM8.out.sz; simp at this ⊢; omega) _ rfl ?_; intro g1 cap1 w6 hown hgrow hat hlt1; rw [← HSN.out] at hown; have H1 := hideIt ((hM8.out.allocd _).lies (i := 3) rfl hown hgrow hat); clear hown hgrow hat)
                    go_roundw
                    case rel => exact ⟨td3 ++ [q], i + 1, by go_num, by omega, HQ1.out, by unfold Hid; rw [HLQ.out]; omega, by rw [HLQ.out]; exact H1.out⟩
                    case measure => simp [intOf]; omega
                · have HM9 := hideIt (hM7.out.sub (l' := [.row 3 1 _ n3 (ints (natI td3)), .row 4 1 (.slice (some ⟨gb, 0, none⟩) 64 64) 64 (bools (bn.set p true))]) (List.sublist_append_right [_, _, _] [_, _]))
                  have HCB2 : Hid (cntB gb wr = cntL bn + 1) := by
                    unfold Hid
                    rw [← HB6.out.2]
                    exact cntB_eq HB6.out.1 fun q b hq => HM9.out.rowCell (i := 1) rfl q (.bool b) (bools_get hq)
                  have hc63 : cntL bn + 1 ≤ 64 := by rw [← HB6.out.2]; exact cntL_le _
                  obtain ⟨ta, tcap, hta⟩ := As.form0 (HM9.out.get (i := 0) rfl)
                  have HTA := hideIt hta
                  clear hM7 hta
                  by_cases hlv : 0 < d.lv
                  · have hik : ¬ ((i : Int) < (d.ks.length : Int)) := by omega
                    clear hgo
                    go_wp2
                    go_roundw
                    case rel => exact ⟨td3, bn.set p true, hin3.out, ⟨HB6.out.1, by rw [HB6.out.2, HN3.out]; have := hbn.out.2; omega⟩, by rw [HN3.out]; exact HM9.out⟩
                    case measure =>
                      have h1 := HCB.out
                      have h2 := HCB2.out
                      rw [HTA.out]
                      show 8 * (64 - cntB gb _) + n3 < 8 * (64 - cntB gb _) + (n1 + 1)
                      rw [h1, h2]
                      omega
                  · clear hgo
                    go_wp2
                    go_roundw
                    case rel => exact ⟨td3, bn.set p true, hin3.out, ⟨HB6.out.1, by rw [HB6.out.2, HN3.out]; have := hbn.out.2; omega⟩, by rw [HN3.out]; exact HM9.out⟩
                    case measure =>
                      have h1 := HCB.out
                      have h2 := HCB2.out
                      rw [HTA.out]
                      show 8 * (64 - cntB gb _) + n3 < 8 * (64 - cntB gb _) + (n1 + 1)
                      rw [h1, h2]
                      omega
end Go.Proofs.YtajobgmnmbnhiaaDoor.Sap
