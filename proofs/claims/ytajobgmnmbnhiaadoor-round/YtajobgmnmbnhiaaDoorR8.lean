/- WHAT IS PROVED HERE: the whole walk of saplingkeep.Round: it answers true, and nothing that was there has turned. Conditions: the table of powers of ten is laid; strings and slices no longer than the form's own reach. -/
import Derived.Test.YtajobgmnmbnhiaaDoorR7
namespace Go.Proofs.YtajobgmnmbnhiaaDoor.Sap
open Go.RowKit

theorem UV.yes {s : List UInt8} {n m : Nd} {x : Int} (h : UV s n x) (k : Unp s m) : n = m ∧ x = 0 := h.uniq (Or.inl ⟨rfl, k⟩)
theorem UV.no {s : List UInt8} {n : Nd} {x : Int} (h : UV s n x) (k : ∀ m, ¬ Unp s m) : n = ⟨0, 0, 0, [], []⟩ ∧ x = 2 := h.uniq (Or.inr ⟨rfl, rfl, k⟩)

/-- An Unpack of a text that is no node's. -/
theorem unpack_no (s : ByteArray) (w : World) (hs : s.size ≤ 140737488351232) (hno : ∀ m, ¬ Unp s.data.toList m) :
    Calls Tryd.prog 15 #[.string s] w fun e w' => (∃ ak ck av cv, e = .returned (.tuple #[.agg #[.int .i64 0, .int .i64 0, .int .i64 0, .slice ak 0 ck, .slice av 0 cv], .int .i64 2])) ∧ Below w.heap.size w w' := by
  refine (unpack_any s w hs).mono ?_
  rintro e w' ⟨hu, hb⟩
  obtain ⟨c, kc, vc, ec, hUc, hOc, rfl⟩ := hu.view
  obtain ⟨rfl, rfl⟩ := hUc.no hno
  obtain ⟨ak, ck, rfl⟩ := own_form hOc.1
  obtain ⟨av, cv, rfl⟩ := own_form hOc.2.1
  exact ⟨⟨ak, ck, av, cv, rfl⟩, hb⟩

set_option maxRecDepth 100000 in
set_option maxHeartbeats 3200000 in
theorem round_walk (level high link : Int) (raw vals : Value) (rs us : List Int) (text : ByteArray) (w : World) (htab : Tab w) (h0 : In64 level) (h1 : In64 high) (h2 : In64 link) (hr : Rd w raw rs) (hv : Rd w vals us)
    (hrl : rs.length ≤ 17592186044416) (hul : us.length ≤ 17592186044416) (hrw : ∀ x ∈ rs, In64 x) (huw : ∀ x ∈ us, In64 x) (ht : text.size ≤ 140737488351232) :
    Calls Tryd.prog 5 #[.int .i64 level, .int .i64 high, .int .i64 link, raw, vals, .string text] w fun e w' => e = .returned (.bool true) ∧ Below w.heap.size w w' := by
  have HT := hideIt htab
  have CN := hideIt (node_all level high link raw vals rs us w h0 h1 h2 hr hv hrl hul hrw huw)
  clear htab h0 h1 h2 hr hv hrl hul hrw huw
  go_enter Tryd.func5, Tryd.ntmps5
  go_wp2_with fail
  refine CN.out.mono ?_
  rintro e w1 ⟨n, kv, vv, hright, rfl, hO, hb1⟩
  have HRT := hideIt hright
  obtain ⟨-, -, cE, cL, c6, -⟩ := right_bd n hright
  have hhi : n.hi ≤ 10000 := by omega
  have CL := hideIt cL
  obtain ⟨p, hp⟩ : ∃ p, n.ks.length = p := ⟨_, rfl⟩
  have hp2 : n.vs.length = p := by omega
  have hp6 : p ≤ 6 := by omega
  obtain ⟨ak, ck, rfl⟩ := own_form hO.1
  obtain ⟨av, cv, rfl⟩ := own_form hO.2.1
  rw [hp, hp2] at hO ⊢
  have HP := hideIt hp
  have HP2 := hideIt hp2
  have O1 := hideIt hO
  have HLT := hideIt (show ∀ g, Value.ownBlock (.slice ak p ck) = some g → w.heap.size ≤ g ∧ g < w1.heap.size from fun g hg => hO.1.lt g hg)
  have hU : Unp (packT n) n := ⟨hright, rfl⟩
  have HU := hideIt hU
  clear CN hright cE cL c6 hp hp2 hO hU
  obtain ⟨N, hN⟩ : ∃ N : Obj, N = .cells #[.int .i64 n.lv, .int .i64 n.lk, .int .i64 n.hi, .slice ak p ck, .slice av p cv] 24 := ⟨_, rfl⟩
  have n1 := heap_alloc_new w1 N
  have hal1 := (Below.refl w1.heap.size w1).alloc (Nat.le_refl _) N
  have OA := hideIt (O1.out.below hal1)
  have hbA := step hb1 hal1
  rw [hN] at n1 OA hbA
  have NA := hideIt n1
  have CP := hideIt (pack_any n (.slice ak p ck) (.slice av p cv) _ (HT.out.below hbA) OA.out.rdK OA.out.rdV (by rw [HP.out]; omega) (by rw [HP2.out]; omega))
  clear n1 hal1 hN N
  go_wp2_with fail
  refine CP.out.mono ?_
  rintro e w2 ⟨b, er, rfl, hpk, -, hb⟩
  unfold Pk at hpk
  rw [HRT.out] at hpk
  obtain ⟨hbp, rfl⟩ := hpk
  have HBP := hideIt hbp
  have hbl := len_unp HU.out
  rw [← hbp, ba_size] at hbl
  obtain ⟨hb7, hb47⟩ := hbl
  have hodd := odd_len HU.out
  rw [← hbp, ba_size] at hodd
  have HODD := hideIt hodd
  have N2 := hideIt (block_below NA.out hb)
  have O2 := hideIt (OA.out.below hb)
  have hb2 := step hbA hb
  clear hb hbp hodd CP NA OA hbA hb1 O1
  go_wp2_with fail
  refine (unpack_any b w2 (by omega)).mono ?_
  rintro e w3 ⟨hu, hb⟩
  obtain ⟨c, kc, vc, ec, hUc, hOc, rfl⟩ := hu.view
  obtain ⟨rfl, rfl⟩ := hUc.yes (by rw [HBP.out]; exact HU.out)
  obtain ⟨akc, ckc, rfl⟩ := own_form hOc.1
  obtain ⟨avc, cvc, rfl⟩ := own_form hOc.2.1
  rw [HP.out, HP2.out] at hOc ⊢
  have OC := hideIt hOc
  have N3 := hideIt (block_below N2.out hb)
  have O3 := hideIt (O2.out.below hb)
  have hb3 := step hb2 hb
  obtain ⟨⟨q0, q1, q2, q3, q4⟩, -⟩ := node_cells1 N3.out
  clear hb hu hUc hOc hb2 N2 O2
  go_wp2_with fail
  refine (same_yes c.lv c.lk c.hi c.ks c.vs _ _ _ _ _ (OC.out.rdK.alloc _) (OC.out.rdV.alloc _) (O3.out.rdK.alloc _) (O3.out.rdV.alloc _) (by rw [HP.out]; omega) CL.out).mono ?_
  rintro e w4 ⟨rfl, hb⟩
  have hal := (Below.refl w3.heap.size w3).alloc (Nat.le_refl _) (.cells #[.int .i64 c.lv, .int .i64 c.lk, .int .i64 c.hi, .slice akc p ckc, .slice avc p cvc] 24)
  have N4 := hideIt (block_below (block_below N3.out hal) hb)
  have O4 := hideIt ((O3.out.below hal).below hb)
  have hb4 := step (step hb3 hal) hb
  clear hb hal hb3 N3 O3 OC q0 q1 q2 q3 q4
  have hbx : (b.extract 1 b.size).size = b.size - 1 := by rw [ByteArray.size_extract]; omega
  have hby : (b.extract 0 (b.size - 1)).size = b.size - 1 := by rw [ByteArray.size_extract]; omega
  have hbz : (b ++ ByteArray.mk #[48]).size = b.size + 1 := by rw [ByteArray.size_append]; rfl
  have U1 := hideIt (fun W => unpack_no (b.extract 1 b.size) W (by omega) (even_no (by rw [ba_size, hbx]; have := HODD.out; omega)))
  have U2 := hideIt (fun W => unpack_no (b ++ ByteArray.mk #[48]) W (by omega) (even_no (by rw [ba_size, hbz]; have := HODD.out; omega)))
  have U3 := hideIt (fun W => unpack_no (b.extract 0 (b.size - 1)) W (by omega) (even_no (by rw [ba_size, hby]; have := HODD.out; omega)))
  clear hbx hby hbz
  have hs1 : (1 : Int) ≤ (b.size : Int) := by omega
  go_wp2_with fail
  refine (U1.out _).mono ?_
  rintro e w5 ⟨⟨x1, x2, x3, x4, rfl⟩, hb⟩
  have N5 := hideIt (block_below N4.out hb)
  have O5 := hideIt (O4.out.below hb)
  have hb5 := step hb4 hb
  clear hb hb4 N4 O4
  go_wp2_with fail
  refine (U2.out _).mono ?_
  rintro e w6 ⟨⟨x5, x6, x7, x8, rfl⟩, hb⟩
  have hal := (Below.refl w5.heap.size w5).alloc (Nat.le_refl _) (.cells #[.int .i64 0, .int .i64 0, .int .i64 0, .slice x1 0 x2, .slice x3 0 x4] 24)
  have N6 := hideIt (block_below (block_below N5.out hal) hb)
  have O6 := hideIt ((O5.out.below hal).below hb)
  have hb6 := step (step hb5 hal) hb
  clear hb hal hb5 N5 O5
  go_wp2_with fail
  refine (U3.out _).mono ?_
  rintro e w7 ⟨⟨x9, y1, y2, y3, rfl⟩, hb⟩
  have hal := (Below.refl w6.heap.size w6).alloc (Nat.le_refl _) (.cells #[.int .i64 0, .int .i64 0, .int .i64 0, .slice x5 0 x6, .slice x7 0 x8] 24)
  have N7 := hideIt (block_below (block_below N6.out hal) hb)
  have O7 := hideIt ((O6.out.below hal).below hb)
  have hb7 := step (step hb6 hal) hb
  clear hb hal hb6 N6 O6 U1 U2 U3
  have hal := (Below.refl w7.heap.size w7).alloc (Nat.le_refl _) (.cells #[.int .i64 0, .int .i64 0, .int .i64 0, .slice x9 0 y1, .slice y2 0 y3] 24)
  have N8 := hideIt (block_below N7.out hal)
  have O8 := hideIt (O7.out.below hal)
  have hb8 := step hb7 hal
  clear hal
  obtain ⟨⟨q0, q1, q2, q3, q4⟩, -⟩ := node_cells1 N7.out
  by_cases hcase : c.hi < 10000 ∧ 0 < p
  · obtain ⟨hc1, hc2⟩ := hcase
    obtain ⟨p', rfl⟩ : ∃ p', p = p' + 1 := ⟨p - 1, by omega⟩
    have hK7 := O7.out.1
    rw [HP.out] at hK7
    obtain ⟨g, rfl, -, -⟩ := own_elem hK7 p' (by omega)
    have qk : ∀ o, ∃ u, (w7.alloc o).cell? ⟨g, p', none⟩ = some (.int .i64 u) := fun o => ⟨_, by
      obtain ⟨g', e', q', -⟩ := own_elem (hK7.alloc o) p' (by omega)
      simp only [Option.some.injEq, Addr.mk.injEq] at e'
      obtain ⟨rfl, -, -⟩ := e'
      exact q'⟩
    obtain ⟨u, qk⟩ := qk (.cells #[.int .i64 0, .int .i64 0, .int .i64 0, .slice x9 0 y1, .slice y2 0 y3] 24)
    have fk := (hK7.alloc (.cells #[.int .i64 0, .int .i64 0, .int .i64 0, .slice x9 0 y1, .slice y2 0 y3] 24)).frozenAt p'
    have hgl := HLT.out g rfl
    have hst := (hK7.alloc (.cells #[.int .i64 0, .int .i64 0, .int .i64 0, .slice x9 0 y1, .slice y2 0 y3] 24)).stored p' (.int .i64 c.hi)
    have hset : (ints c.ks).set p' (.int .i64 c.hi) = ints (c.ks.set p' c.hi) := by unfold ints; rw [List.map_set]
    rw [hset] at hst
    have hlen : (c.ks.set p' c.hi).length = p' + 1 := by rw [List.length_set, HP.out]
    have hV7 : ((w7.alloc (.cells #[.int .i64 0, .int .i64 0, .int .i64 0, .slice x9 0 y1, .slice y2 0 y3] 24)).setCell ⟨g, p', none⟩ (.int .i64 c.hi)).ownsRow w.heap.size 3 1 (.slice av (p' + 1) cv) c.vs.length (ints c.vs) := ownsRow_setCell_other (O7.out.2.1.alloc _) (fun e => O7.out.2.2 g rfl e) _
    have N7s := (Below.heap_setCell (w7.alloc (.cells #[.int .i64 0, .int .i64 0, .int .i64 0, .slice x9 0 y1, .slice y2 0 y3] 24)) ⟨g, p', none⟩ (.int .i64 c.hi) w1.heap.size (by show w1.heap.size ≠ g; omega)).trans N8.out
    have hbs := hb8.setCell (p := ⟨g, p', none⟩) (by show w.heap.size ≤ g; omega) (.int .i64 c.hi)
    have hRk := owns_rd (B := w.heap.size) (xs := c.ks.set p' c.hi) (by rw [hlen]; exact hst.1)
    have hRv := owns_rd hV7
    have hnr := hideIt (not_right_high c (c.ks.set p' c.hi) (by
      rw [List.mem_iff_getElem]
      exact ⟨p', by omega, by simp⟩))
    have CP := hideIt (pack_any ⟨c.lv, c.lk, c.hi, c.ks.set p' c.hi, c.vs⟩ (.slice (some ⟨g, 0, none⟩) (p' + 1) ck) (.slice av (p' + 1) cv) _ (HT.out.below hbs) hRk hRv (by show (c.ks.set p' c.hi).length ≤ _; omega) (by show c.vs.length ≤ _; rw [HP2.out]; omega))
    obtain ⟨⟨z0, z1, z2, z3, z4⟩, -⟩ := node_cells N7s
    have hpp0 : (0 : Int) ≤ (p' : Int) := by omega
    have hpp1 : (p' : Int) < (p' : Int) + 1 := by omega
    clear hK7 hst hset hlen hV7 N7s hRk hRv hc2 N8 O8 hb8
    go_wp2_with fail
    refine CP.out.mono ?_
    rintro e w8 ⟨b8, e8, rfl, hpk, -, hb⟩
    unfold Pk at hpk
    rw [hnr.out] at hpk
    obtain ⟨-, rfl⟩ := hpk
    have hbP := step hbs hb
    clear hb CP hbs z0 z1 z2 z3 z4 qk fk
    go_wp2_with fail
    refine (unpack_any text _ ht).mono ?_
    rintro e w9 ⟨hu, hb⟩
    obtain ⟨x, kx, vx, ex, hUx, hOx, rfl⟩ := hu.view
    have hb9 := step hbP hb
    have OX := hideIt hOx
    obtain ⟨akx, ckx, rfl⟩ := own_form hOx.1
    obtain ⟨avx, cvx, rfl⟩ := own_form hOx.2.1
    clear hb hu hOx q0 q1 q2 q3 q4
    rcases hUx with ⟨rfl, hUx⟩ | ⟨rfl, rfl, -⟩
    · have HUX := hideIt hUx
      have hlx := (show UV text.data.toList x 0 from Or.inl ⟨rfl, hUx⟩).len
      have hal := (Below.refl w9.heap.size w9).alloc (Nat.le_refl _) (.cells #[.int .i64 x.lv, .int .i64 x.lk, .int .i64 x.hi, .slice akx x.ks.length ckx, .slice avx x.vs.length cvx] 24)
      have hbB := step hb9 hal
      have CP := hideIt (pack_any x (.slice akx x.ks.length ckx) (.slice avx x.vs.length cvx) _ (HT.out.below hbB) (OX.out.rdK.alloc _) (OX.out.rdV.alloc _) (by omega) (by omega))
      clear hUx hal
      go_wp2_with fail
      refine CP.out.mono ?_
      rintro e w10 ⟨t, et, rfl, hpk, -, hb⟩
      unfold Pk at hpk
      rw [HUX.out.1] at hpk
      obtain ⟨htp, rfl⟩ := hpk
      obtain rfl : t = text := ba_ext (htp.trans HUX.out.2)
      have hb10 := step hbB hb
      clear htp hb CP
      go_wp2
      go_ret
      exact ⟨rfl, hb10⟩
    · go_wp2
      go_ret
      exact ⟨rfl, hb9.alloc hb9.size _⟩
  · have hcase2 : (10000 ≤ c.hi) ∨ (c.hi < 10000 ∧ p ≤ 0) := by omega
    clear hcase
    rcases hcase2 with hc1 | ⟨hc1, hc2⟩
    · go_wp2_with fail
      refine (unpack_any text _ ht).mono ?_
      rintro e w9 ⟨hu, hb⟩
      obtain ⟨x, kx, vx, ex, hUx, hOx, rfl⟩ := hu.view
      have hb9 := step hb8 hb
      have OX := hideIt hOx
      obtain ⟨akx, ckx, rfl⟩ := own_form hOx.1
      obtain ⟨avx, cvx, rfl⟩ := own_form hOx.2.1
      clear hb hu hOx q0 q1 q2 q3 q4
      rcases hUx with ⟨rfl, hUx⟩ | ⟨rfl, rfl, -⟩
      · have HUX := hideIt hUx
        have hlx := (show UV text.data.toList x 0 from Or.inl ⟨rfl, hUx⟩).len
        have hal := (Below.refl w9.heap.size w9).alloc (Nat.le_refl _) (.cells #[.int .i64 x.lv, .int .i64 x.lk, .int .i64 x.hi, .slice akx x.ks.length ckx, .slice avx x.vs.length cvx] 24)
        have hbB := step hb9 hal
        have CP := hideIt (pack_any x (.slice akx x.ks.length ckx) (.slice avx x.vs.length cvx) _ (HT.out.below hbB) (OX.out.rdK.alloc _) (OX.out.rdV.alloc _) (by omega) (by omega))
        clear hUx hal
        go_wp2_with fail
        refine CP.out.mono ?_
        rintro e w10 ⟨t, et, rfl, hpk, -, hb⟩
        unfold Pk at hpk
        rw [HUX.out.1] at hpk
        obtain ⟨htp, rfl⟩ := hpk
        obtain rfl : t = text := ba_ext (htp.trans HUX.out.2)
        have hb10 := step hbB hb
        clear htp hb CP
        go_wp2
        go_ret
        exact ⟨rfl, hb10⟩
      · go_wp2
        go_ret
        exact ⟨rfl, hb9.alloc hb9.size _⟩
    · go_wp2_with fail
      refine (unpack_any text _ ht).mono ?_
      rintro e w9 ⟨hu, hb⟩
      obtain ⟨x, kx, vx, ex, hUx, hOx, rfl⟩ := hu.view
      have hb9 := step hb8 hb
      have OX := hideIt hOx
      obtain ⟨akx, ckx, rfl⟩ := own_form hOx.1
      obtain ⟨avx, cvx, rfl⟩ := own_form hOx.2.1
      clear hb hu hOx q0 q1 q2 q3 q4
      rcases hUx with ⟨rfl, hUx⟩ | ⟨rfl, rfl, -⟩
      · have HUX := hideIt hUx
        have hlx := (show UV text.data.toList x 0 from Or.inl ⟨rfl, hUx⟩).len
        have hal := (Below.refl w9.heap.size w9).alloc (Nat.le_refl _) (.cells #[.int .i64 x.lv, .int .i64 x.lk, .int .i64 x.hi, .slice akx x.ks.length ckx, .slice avx x.vs.length cvx] 24)
        have hbB := step hb9 hal
        have CP := hideIt (pack_any x (.slice akx x.ks.length ckx) (.slice avx x.vs.length cvx) _ (HT.out.below hbB) (OX.out.rdK.alloc _) (OX.out.rdV.alloc _) (by omega) (by omega))
        clear hUx hal
        go_wp2_with fail
        refine CP.out.mono ?_
        rintro e w10 ⟨t, et, rfl, hpk, -, hb⟩
        unfold Pk at hpk
        rw [HUX.out.1] at hpk
        obtain ⟨htp, rfl⟩ := hpk
        obtain rfl : t = text := ba_ext (htp.trans HUX.out.2)
        have hb10 := step hbB hb
        clear htp hb CP
        go_wp2
        go_ret
        exact ⟨rfl, hb10⟩
      · go_wp2
        go_ret
        exact ⟨rfl, hb9.alloc hb9.size _⟩
end Go.Proofs.YtajobgmnmbnhiaaDoor.Sap
