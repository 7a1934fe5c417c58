/- WHAT IS PROVED HERE: saplingkeep's pieces against a table that is given; what Lone asks of each operation that moves alone (LnOk); a list of raw operations in memory. Conditions: named at each theorem. -/
import Derived.Test.YtajobgmnmbnhiaaGreatDoorRows
import Derived.Test.YtajobgmnmbnhiaaGreatDoorXN5N7
import Derived.Test.YtajobgmnmbnhiaaGreatDoorXK4K5
import Derived.Test.YtajobgmnmbnhiaaGreatDoorXK6J1
import Derived.Test.YtajobgmnmbnhiaaGreatDoorXJ2J5
import Derived.Test.YtajobgmnmbnhiaaGreatDoorXP1J3
import Derived.Deep.Slices
import Derived.OpenShut
namespace Go.Proofs.YtajobgmnmbnhiaaGreatDoor.Sap
open Go.RowKit

/-- The answer of a Scan that has ended, held against one table: m + 1 pieces; below b it has looked; sn: how many keys were seen ahead of each piece. -/
structure PcsL (K V : List Int) (d : Dd) (m : Nat) (bel pts : List Int) (b : Int) (sn : Nat → Nat) : Prop where
  er : d.er = 0
  fd : d.fd = decide (0 < d.ks.length)
  va : d.va = d.ks.length
  cs : d.cs = bel.zip pts
  bl : bel.length = m + 1
  pl : pts.length = m + 1
  mm : m ≤ 1000000
  ks : d.ks.length = d.vs.length
  s0 : sn 0 = 0
  sE : sn (m + 1) = d.ks.length
  fE : fromV bel d.key (m + 1) = b
  pt : pts.getLast? = some d.pt
  pa : ∀ i, i < m + 1 → ∃ p be k, PcR K V d.ks d.vs d.key d.v bel pts d.ts sn i p be k
  ri : ∀ i, i + 1 < d.ks.length → d.ks[i]?.getD 0 < d.ks[i + 1]?.getD 0
  bb : d.key + 1 ≤ b ∧ b ≤ d.v + 1
  h12 : d.ks.length ≤ 12
  nd : (d.ks.length = 12 ∧ b = d.ks.getLast?.getD 0 + 1) ∨ (d.ks.length < 12 ∧ b = d.v + 1)
  v0 : 0 ≤ d.v
  v1 : d.v ≤ 9999
  k0 : 0 ≤ d.key

/-- pieces against a table. -/
theorem pieces_tab (x : Wd) (d : Dd) (n m gt l : Nat) (kv vv : Value) (K V : List Int) (fr : List As) (w0 w : World) (B : Nat) (bel pts : List Int) (b : Int) (sn : Nat → Nat) (hd : x.ds[n]? = some d) (hK : K.length = l) (hV : V.length = l) (hl : l ≤ 1000000000) (P : PcsL K V d m bel pts b sn)
    (h : M w0 B w (x.as ++ (.blk gt #[kv, vv] 55 :: .row 3 1 kv l (ints K) :: .row 3 1 vv l (ints V) :: fr))) :
    Calls Tryz.prog 13 #[.pointer (some ⟨x.gw, 0, none⟩), .pointer (some ⟨d.gd, 0, none⟩), .pointer (some ⟨gt, 0, none⟩)] w fun e w' => e = .returned (.bool true) ∧ Below w.heap.size w w' := by
  have D := M.deed (pre := []) h hd
  have hT := h.perm (l' := (.blk gt #[kv, vv] 55 :: .row 3 1 kv l (ints K) :: .row 3 1 vv l (ints V) :: fr) ++ x.as) List.perm_append_comm
  have hcl : d.cs.length = m + 1 := by rw [P.cs, List.length_zip, P.bl, P.pl]; omega
  obtain ⟨cg, cc, hcv⟩ := As.form (D.get (i := 11) rfl) (by omega)
  have d8 := D.cell (i := 0) rfl 8 (.int .i64 d.er) rfl
  have d9 := D.cell (i := 0) rfl 9 (.bool d.fd) rfl
  have d10 := D.cell (i := 0) rfl 10 (.int .i64 d.va) rfl
  have d14 := D.cell (i := 0) rfl 14 d.cv rfl
  rw [P.er] at d8
  rw [P.va] at d10
  rw [hcv, hcl] at d14
  have hrow := D.get (i := 11) rfl
  rw [hcv, hcl, P.cs] at hrow
  have rK : Rd w kv K := by have := owns_rd (h := by rw [hK]; exact (hT.get (i := 1) rfl).own); exact this
  have rV : Rd w vv V := by have := owns_rd (h := by rw [hV]; exact (hT.get (i := 2) rfl).own); exact this
  exact pieces_fix d.gd gt cg m cc _ d.key d.v d.pt b d.fd d.kv d.vv d.tm kv vv d.ks d.vs K V bel pts d.ts sn w (D.cell (i := 0) rfl 1 _ rfl) (D.cell (i := 0) rfl 2 _ rfl) (D.cell (i := 0) rfl 4 _ rfl) d8 d9 d10 (D.cell (i := 0) rfl 11 _ rfl) (D.cell (i := 0) rfl 12 _ rfl) (D.cell (i := 0) rfl 13 _ rfl) d14 (hT.cell (i := 0) rfl 0 _ rfl) (hT.cell (i := 0) rfl 1 _ rfl) (owns_rd (D.get (i := 9) rfl).own) (owns_rd (D.get (i := 10) rfl).own) (owns_rd (D.get (i := 2) rfl).own) rK rV (fun i hi => by
      have hb1 : bel[i]? = some (bel[i]'(by rw [P.bl]; exact hi)) := List.getElem?_eq_getElem _
      have hp1 : pts[i]? = some (pts[i]'(by rw [P.pl]; exact hi)) := List.getElem?_eq_getElem _
      have hz : (bel.zip pts)[i]? = some (bel[i]'(by rw [P.bl]; exact hi), pts[i]'(by rw [P.pl]; exact hi)) := by rw [List.getElem?_zip_eq_some]; exact ⟨hb1, hp1⟩
      obtain ⟨h1, h2⟩ := cutc_at hz
      rw [hb1, hp1]
      exact ⟨by rw [World.ownsRow.cellAt hrow.own _ (by omega)]; exact h1, by rw [World.ownsRow.cellAt hrow.own _ (by omega)]; exact h2⟩) P.pl P.mm (by rw [hK, hV]) (by omega) P.ks P.s0 P.sE P.fE P.pt P.pa P.ri P.bb P.h12 P.fd P.nd P.v0 P.v1 P.k0

/-- A raw operation. -/
structure Ro where
  k : Int
  key : Int
  v : Int
structure Ro.ok (t : Ro) : Prop where
  k : I64 t.k
  key : I64 t.key
  v : I64 t.v
/-- Raw operations, as they lie in memory. -/
def ORd (w : World) (v : Value) (ts : List Ro) : Prop :=
  ∃ ao cap, v = .slice ao ts.length cap ∧ (0 < ts.length → ∃ b off, ao = some ⟨b, off, none⟩ ∧ ∀ j t, ts[j]? = some t → w.cell? ⟨b, off + j * 3, none⟩ = some (.int .i64 t.k) ∧ w.cell? ⟨b, off + j * 3 + 1, none⟩ = some (.int .i64 t.key) ∧ w.cell? ⟨b, off + j * 3 + 2, none⟩ = some (.int .i64 t.v))
theorem ORd.below {w w' : World} {v : Value} {ts : List Ro} (h : ORd w v ts) (hb : Below w.heap.size w w') : ORd w' v ts := by
  obtain ⟨ao, cap, rfl, h⟩ := h
  refine ⟨ao, cap, rfl, fun hp => ?_⟩
  obtain ⟨b, off, rfl, k⟩ := h hp
  refine ⟨b, off, rfl, fun j t hj => ?_⟩
  obtain ⟨h0, h1, h2⟩ := k j t hj
  exact ⟨cell_below hb _ _ h0, cell_below hb _ _ h1, cell_below hb _ _ h2⟩

/-- What an operation that moved alone has come to: x: the world ahead of it, with the table T and I Puts that found nothing. -/
structure LnE (Rs : Nat → Wd → List Int × List Int → Nat → Prop) (gw : Nat) (x : Wd) (T : List Int × List Int) (I : Nat) (k key v : Int) (x2 : Wd) (d : Dd) : Prop where
  now : x2.now ≤ x.now + 300
  nd : x2.ds.length = x.ds.length + 1
  ds : x2.ds[x.ds.length]? = some d
  an : (k = 4 ∧ (∃ m bel pts b sn, PcsL T.1 T.2 d m bel pts b sn) ∧ Rs gw x2 T I) ∨ (k = 2 ∧ d.er = 4 ∧ 61 ≤ I ∧ Rs gw x2 T I) ∨
    (k ≠ 4 ∧ d.er = 0 ∧ (∀ fd u, ValR T.1 T.2 key fd u → d.fd = fd ∧ d.va = u) ∧ Rs gw x2 (tdo k key v T.1 T.2) (I + if k = 2 ∧ d.fd = false then 1 else 0) ∧ (k = 1 → x.rf = true ∨ ∀ nd, Says x.T x.U 0 nd → (d.ts.length : Int) = nd.lv + 1 ∧ d.pt = nd.lv))
/-- What Lone asks of a program. -/
structure LnOk (Rs : Nat → Wd → List Int × List Int → Nat → Prop) (Lb : Nat → Wd → List Int × List Int → Nat → Int → Int → Int → Wd → Prop) (w0 : World) : Prop where
  ini : ∀ tg tc ug uc vg vc bg bc, Rs w0.heap.size (Wd.first w0.heap.size tg tc ug uc vg vc bg bc) ([], []) 0
  pg : ∀ x T I, Rs w0.heap.size x T I → x.gw = w0.heap.size ∧ (∃ nd, Says x.T x.U 0 nd) ∧ T.1.length = T.2.length
  bg : ∀ x T I (k key v : Int) W (fr : List As), Rs w0.heap.size x T I → x.ds.length ≤ 89000000 → x.now ≤ 89000000 → opR k key v = true → M w0 w0.heap.size W (x.as ++ fr) → Calls Tryz.prog 10 #[.pointer (some ⟨w0.heap.size, 0, none⟩), .int .i64 0, .agg #[.int .i64 k, .int .i64 key, .int .i64 v]] W fun e w' => (∃ u, e = .returned u) ∧ ∃ x', Lb w0.heap.size x T I k key v x' ∧ M w0 w0.heap.size w' (x'.as ++ fr)
  pb : ∀ x T I k key v x', Lb w0.heap.size x T I k key v x' → x'.gw = w0.heap.size
  al : ∀ x T I (k key v : Int) x' W (fr : List As), Lb w0.heap.size x T I k key v x' → M w0 w0.heap.size W (x'.as ++ fr) → Calls Tryz.prog 11 #[.pointer (some ⟨w0.heap.size, 0, none⟩), .int .i64 0] W fun e w' => (∃ u, e = .returned u) ∧ ∃ x2 d, LnE Rs w0.heap.size x T I k key v x2 d ∧ M w0 w0.heap.size w' (x2.as ++ fr)
end Go.Proofs.YtajobgmnmbnhiaaGreatDoor.Sap

/- WHAT IS PROVED HERE: saplingkeep's Lone answers true over any program whose operations, each moving alone, are answered as a table answers them (LnOk). Conditions: those of Good and LnOk; there are at most 262144 operations. -/
namespace Go.Proofs.YtajobgmnmbnhiaaGreatDoor.Sap
open Go.RowKit

set_option maxRecDepth 100000 in
set_option maxHeartbeats 12800000 in
theorem lone_gen (sv : Value) (os : List Ro) (Inv : Nat → Wd → Prop) (rk : Nat → Wd → Nat) (Rs : Nat → Wd → List Int × List Int → Nat → Prop) (Lb : Nat → Wd → List Int × List Int → Nat → Int → Int → Int → Wd → Prop) (w : World) (htab : Tab w) (hT : ORd w sv os) (hok : ∀ t ∈ os, t.ok) (hlen : os.length ≤ 262144) (G : Good Inv rk) (hA : ∀ W, Tab W → LnOk Rs Lb W) :
    Calls Tryz.prog 4 #[sv] w fun e w' => e = .returned (.bool true) ∧ Below w.heap.size w w' := by
  have HT := hideIt hT
  obtain ⟨ao, cap, rfl, -⟩ := hT
  have HOK := hideIt hok
  have HLA := hideIt hA
  have HL := hideIt hlen
  obtain ⟨n, hn⟩ : ∃ n, os.length = n := ⟨_, rfl⟩
  have HNN := hideIt hn
  rw [hn] at HL HT ⊢
  obtain ⟨Pv, Pb, hpv, hp0⟩ := G.pv w htab
  have CP := hideIt (proved_gen Pv Pb w hpv hp0)
  clear hok hlen hn G hA hpv hp0
  go_enter Tryz.func4, Tryz.ntmps4
  go_wp2_with fail
  refine CP.out.mono ?_
  rintro e w1 ⟨rfl, hb1⟩
  have HB1 := hideIt hb1
  have HG := hideIt (HLA.out w1 (htab.below hb1))
  have HT1 := hideIt (HT.out.below hb1)
  clear hb1 CP HT
  obtain ⟨gw, hgw⟩ : ∃ g, w1.heap.size = g := ⟨_, rfl⟩
  have HGW := hideIt hgw
  go_wp2_with fail
  refine (fresh_wd w1).mono ?_
  rintro e w2 ⟨rfl, tg, tc, ug, uc, vg, vc, bg, bc, hM⟩
  obtain ⟨x0, hx0⟩ : ∃ y, Wd.first w1.heap.size tg tc ug uc vg vc bg bc = y := ⟨_, rfl⟩
  have HX0 : Hid (x0.now = 0 ∧ x0.ds = []) := by unfold Hid; rw [← hx0]; exact ⟨rfl, rfl⟩
  rw [hx0, List.append_nil] at hM
  have A0 := hideIt ((M.nil2 (e := 3) (z := 1) (l1 := [_]) (l2 := _ :: x0.as) (M.nil2 (e := 3) (z := 1) (l1 := [_]) (l2 := x0.as) (hM.alloc #[.slice none 0 0, .slice none 0 0] 55))).perm (l' := x0.as ++ [.blk w2.heap.size #[.slice none 0 0, .slice none 0 0] 55, .row 3 1 (.slice none 0 0) 0 [], .row 3 1 (.slice none 0 0) 0 []]) (List.perm_append_comm (l₁ := x0.as) (l₂ := [.blk w2.heap.size #[.slice none 0 0, .slice none 0 0] 55, .row 3 1 (.slice none 0 0) 0 [], .row 3 1 (.slice none 0 0) 0 []])))
  have HR0 := hideIt (HG.out.ini tg tc ug uc vg vc bg bc)
  rw [hx0, hgw] at HR0
  rw [hgw] at A0 ⊢
  clear hM hgw hx0
  go_wp2
  obtain ⟨gt, hgt⟩ : ∃ g, w2.heap.size = g := ⟨_, rfl⟩
  rw [hgt] at A0 ⊢
  clear hgt
  go_loopw [6, 7] (fun nv y wr => ∃ (j : Nat) (x : Wd) (T : List Int × List Int) (I l : Nat) (kv vv : Value), nv = .int .i64 I ∧ y = .int .i64 j ∧ j ≤ n ∧ I ≤ j ∧ l ≤ j ∧ Hid (T.1.length = l ∧ T.2.length = l) ∧ Hid (x.now ≤ 300 * (j : Int)) ∧ Hid (x.ds.length = j) ∧ Hid (Rs gw x T I) ∧ Hid (M w1 gw wr (x.as ++ [.blk gt #[kv, vv] 55, .row 3 1 kv l (ints T.1), .row 3 1 vv l (ints T.2)]))) (fun _ i _ => n - (intOf i).toNat)
  case atStart => exact ⟨0, _, _, 0, 0, _, _, rfl, rfl, by omega, by omega, by omega, ⟨rfl, rfl⟩, by unfold Hid; rw [HX0.out.1]; decide, by unfold Hid; rw [HX0.out.2]; rfl, HR0.out, A0.out⟩
  case round =>
    clear A0 HR0
    obtain ⟨j, x, T, I, l, kv, vv, rfl, rfl, hj, hIj, hlj, hl, hnw, hnd, hR, hM⟩ := hrel
    by_cases hlt : j < n
    · have hj1 : (j : Int) < (n : Int) := by omega
      have hj0 : (0 : Int) ≤ (j : Int) := by omega
      have hn6 := HL.out
      obtain ⟨ao2, cap2, e2, hT2⟩ := HT1.out
      obtain ⟨b, off, e3, hT3⟩ := hT2 (by rw [HNN.out]; omega)
      obtain ⟨t, ht⟩ : ∃ t, os[j]? = some t := ⟨_, List.getElem?_eq_getElem (by rw [HNN.out]; exact hlt)⟩
      rw [HNN.out] at e2
      cases e2
      subst e3
      have hb2 : Below w1.heap.size w1 wr := by have := hM.out.bl; rw [← HGW.out] at this; exact this
      obtain ⟨c0, c1, c2⟩ := hT3 j t ht
      have c0 := cell_below hb2 _ _ c0
      have c1 := cell_below hb2 _ _ c1
      have c2 := cell_below hb2 _ _ c2
      have hok := HOK.out t (List.mem_of_getElem? ht)
      have CR := hideIt (fun W => right_make t.k t.key t.v W hok.k hok.key hok.v)
      have hopr := hideIt (right_right t.k t.key t.v)
      obtain ⟨k, hkk⟩ : ∃ y, rKd t.k = y := ⟨_, rfl⟩
      obtain ⟨key, hky⟩ : ∃ y, rKey t.key = y := ⟨_, rfl⟩
      obtain ⟨v, hvv⟩ : ∃ y, rVal t.k t.key t.v = y := ⟨_, rfl⟩
      rw [hkk, hky, hvv] at CR hopr
      have hpgs := HG.out.pg x T I (by rw [HGW.out]; exact hR.out)
      rw [HGW.out] at hpgs
      obtain ⟨hgx, ⟨nd, hsy⟩, -⟩ := hpgs
      have HGX := hideIt hgx
      have HSY := hideIt hsy
      clear hT3 hT2 ht hok hb2 hkk hky hvv hgx hsy
      go_wp2_with fail
      refine (CR.out _).mono ?_
      rintro e w3 ⟨rfl, hb3⟩
      have A1 := hideIt (((hM.out.below hb3).alloc #[.int .i64 k, .int .i64 key, .int .i64 v] 36).perm (l' := x.as ++ ([.blk gt #[kv, vv] 55, .row 3 1 kv l (ints T.1), .row 3 1 vv l (ints T.2)] ++ [.blk w3.heap.size #[.int .i64 k, .int .i64 key, .int .i64 v] 36])) (by rw [← List.append_assoc]; exact List.perm_append_comm (l₁ := x.as ++ [.blk gt #[kv, vv] 55, .row 3 1 kv l (ints T.1), .row 3 1 vv l (ints T.2)]) (l₂ := [.blk w3.heap.size #[.int .i64 k, .int .i64 key, .int .i64 v] 36])))
      have CL := hideIt (levels_any x.gw _ _ _ _ _ _ nd _ A1.out.pages HSY.out)
      rw [HGX.out] at CL
      clear CR hM hb3 c0 c1 c2
      go_wp2_with fail
      refine CL.out.mono ?_
      rintro e w4 ⟨rfl, hb4⟩
      obtain ⟨go, hgo⟩ : ∃ g, w3.heap.size = g := ⟨_, rfl⟩
      rw [hgo] at A1 ⊢
      have A2 := hideIt (A1.out.below hb4)
      have g7 := A2.out.cell (i := 0) rfl 7 (.bool x.rf) rfl
      rw [HGX.out] at g7
      have o0 := A2.out.cellMem (b := go) (c := #[.int .i64 k, .int .i64 key, .int .i64 v]) (t := 36) (by simp) 0 _ rfl
      have o1 := A2.out.cellMem (b := go) (c := #[.int .i64 k, .int .i64 key, .int .i64 v]) (t := 36) (by simp) 1 _ rfl
      have o2 := A2.out.cellMem (b := go) (c := #[.int .i64 k, .int .i64 key, .int .i64 v]) (t := 36) (by simp) 2 _ rfl
      have CB := hideIt (HG.out.bg x T I k key v w4 _ (by rw [HGW.out]; exact hR.out) (by rw [hnd.out]; omega) (by have := hnw.out; omega) hopr.out (by rw [HGW.out]; exact A2.out))
      rw [HGW.out] at CB
      have hlv : 0 ≤ nd.lv ∧ nd.lv ≤ 9 := by
        obtain ⟨-, -, t, -, hn⟩ := HSY.out
        have := hn.1
        simp only [rightB, Bool.and_eq_true, decide_eq_true_eq] at this
        omega
      obtain ⟨xrf, hxrf⟩ : ∃ y, x.rf = y := ⟨_, rfl⟩
      have HXRF := hideIt hxrf
      rw [hxrf] at g7
      clear CL A1 hb4 A2 hgo hxrf
      go_wp2_with fail
      refine CB.out.mono ?_
      rintro e w5 ⟨⟨u, rfl⟩, x5, hL5, hM5⟩
      have hg5 : Hid (x5.gw = gw) := by have := HG.out.pb x T I k key v x5 (by rw [HGW.out]; exact hL5); rw [HGW.out] at this; exact this
      have g14 := hM5.cell (i := 0) rfl 14 (.bool false) rfl
      rw [hg5.out] at g14
      have CA := hideIt (HG.out.al x T I k key v x5 w5 _ (by rw [HGW.out]; exact hL5) (by rw [HGW.out]; exact hM5))
      rw [HGW.out] at CA
      clear CB hL5 hM5 hg5 g7 o0 o1 o2
      go_wp2_with fail
      refine CA.out.mono ?_
      rintro e w6 ⟨⟨u, rfl⟩, x6, d, hE, hM6⟩
      have hds : x6.ds[j]? = some d := by have := hE.ds; rw [hnd.out] at this; exact this
      have hn6 : x6.ds.length = j + 1 := by rw [hE.nd, hnd.out]
      have hnow6 : x6.now ≤ 300 * ((j : Int) + 1) := by have := hE.now; have := hnw.out; omega
      have hg6 : x6.gw = gw := by
        have hpg := fun T I h => (HG.out.pg x6 T I h).1
        rw [HGW.out] at hpg
        rcases hE.an with ⟨-, -, h⟩ | ⟨-, -, -, h⟩ | ⟨-, -, -, h, -⟩
        · exact hpg _ _ h
        · exact hpg _ _ h
        · exact hpg _ _ h
      obtain ⟨dg, dc, g3, p0, d0⟩ := M.deedAt hM6 hds hn6
      have g14 := hM6.cell (i := 0) rfl 14 (.bool false) rfl
      have HDS := hideIt hds
      have HN6 := hideIt hn6
      have HNW6 := hideIt hnow6
      have HG6 := hideIt hg6
      have HE := hideIt hE
      rw [hg6] at g3 g14
      obtain ⟨gd, hgd⟩ : ∃ y, d.gd = y := ⟨_, rfl⟩
      have HGD := hideIt hgd
      rw [hgd] at p0
      have HM6 := hideIt hM6
      clear CA hM6 hds hn6 hnow6 hg6 hE d0 hgd hnw hnd hR HGX
      go_wp2
      go_quiet (fail)
      have HM7 := hideIt (HM6.out.drewN nq)
      obtain ⟨w7, hw7⟩ : ∃ W, w6.drewN nq = W := ⟨_, rfl⟩
      rw [hw7] at HM7 ⊢
      clear hw7 HM6 g3 p0 g14
      have g14 := HM7.out.cell (i := 0) rfl 14 (.bool false) rfl
      rw [HG6.out] at g14
      have hopk : 1 ≤ k ∧ k ≤ 4 := by
        have := hopr.out
        simp only [opR, Bool.and_eq_true, Bool.or_eq_true, decide_eq_true_eq] at this
        omega
      have o0 := HM7.out.cellMem (b := go) (c := #[.int .i64 k, .int .i64 key, .int .i64 v]) (t := 36) (by simp) 0 _ rfl
      have o1 := HM7.out.cellMem (b := go) (c := #[.int .i64 k, .int .i64 key, .int .i64 v]) (t := 36) (by simp) 1 _ rfl
      have hgot : go < w7.heap.size := lt_of_cell o0
      rcases HE.out.an with ⟨hk4, ⟨m, bel, pts, bb, sn, P⟩, hR6⟩ | hno
      · subst hk4
        have CPc := hideIt (pieces_tab x6 d j m gt l kv vv T.1 T.2 [As.blk go #[.int .i64 4, .int .i64 key, .int .i64 v] 36] w1 w7 gw bel pts bb sn HDS.out hl.out.1 hl.out.2 (by omega) P HM7.out)
        rw [HG6.out, HGD.out] at CPc
        have HR6 := hideIt hR6
        clear P hR6 HE
        go_wp2_with fail
        refine CPc.out.mono ?_
        rintro e w8 ⟨rfl, hb8⟩
        have HM8 := hideIt ((HM7.out.below hb8).sub (l' := x6.as ++ [As.blk gt #[kv, vv] 55, As.row 3 1 kv l (ints T.1), As.row 3 1 vv l (ints T.2)]) (List.Sublist.append_left (List.sublist_append_left [As.blk gt #[kv, vv] 55, As.row 3 1 kv l (ints T.1), As.row 3 1 vv l (ints T.2)] [As.blk go #[.int .i64 4, .int .i64 key, .int .i64 v] 36]) _))
        clear CPc hb8 HM7 g14 o0 o1
        go_wp2
        go_roundw
        case rel => exact ⟨j + 1, x6, T, I, l, kv, vv, rfl, by go_num, by omega, by omega, by omega, hl.out, by unfold Hid; have := HNW6.out; omega, HN6.out, HR6.out, HM8.out⟩
        case measure => simp [intOf]; omega
      · have hTb := HM7.out.perm (l' := [As.blk gt #[kv, vv] 55, As.row 3 1 kv l (ints T.1), As.row 3 1 vv l (ints T.2)] ++ (x6.as ++ [As.blk go #[.int .i64 k, .int .i64 key, .int .i64 v] 36])) (List.perm_append_comm_assoc [As.blk gt #[kv, vv] 55, As.row 3 1 kv l (ints T.1), As.row 3 1 vv l (ints T.2)] x6.as [As.blk go #[.int .i64 k, .int .i64 key, .int .i64 v] 36])
        have rK : Rd w7 kv T.1 := by have := owns_rd (h := by rw [hl.out.1]; exact (hTb.get (i := 1) rfl).own); exact this
        have rV : Rd w7 vv T.2 := by have := owns_rd (h := by rw [hl.out.2]; exact (hTb.get (i := 2) rfl).own); exact this
        have CV := hideIt (value_any gt kv vv T.1 T.2 key w7 (hTb.cell (i := 0) rfl 0 _ rfl) (hTb.cell (i := 0) rfl 1 _ rfl) rK rV (by rw [hl.out.1]; omega) (by rw [hl.out.1, hl.out.2]))
        have HNO := hideIt hno
        have hkn : k ≠ 4 := by rcases hno with ⟨e, -⟩ | ⟨e, -⟩ <;> omega
        have hkb : (k == 4) = false := by simp [hkn]
        clear hTb rK rV hno hkn HE
        go_wp2_with fail
        refine CV.out.mono ?_
        rintro e w8 ⟨fd, u, rfl, hV, hb8⟩
        have HM8 := hideIt (HM7.out.below hb8)
        have HV := hideIt hV
        have D := M.deed (pre := []) HM8.out HDS.out
        have d8 := D.cell (i := 0) rfl 8 (.int .i64 d.er) rfl
        rw [HGD.out] at d8
        have hgdl : gd < w8.heap.size := lt_of_cell d8
        clear o0 o1 g14 CV hb8 hV D HM7 hgot
        have o0 := HM8.out.cellMem (b := go) (c := #[.int .i64 k, .int .i64 key, .int .i64 v]) (t := 36) (by simp) 0 _ rfl
        have o1 := HM8.out.cellMem (b := go) (c := #[.int .i64 k, .int .i64 key, .int .i64 v]) (t := 36) (by simp) 1 _ rfl
        have o2 := HM8.out.cellMem (b := go) (c := #[.int .i64 k, .int .i64 key, .int .i64 v]) (t := 36) (by simp) 2 _ rfl
        have hgot : go < w8.heap.size := lt_of_cell o0
        rcases HNO.out with ⟨hk2, her, hI61, hR6⟩ | ⟨hk4, her, hval, hR6, hget⟩
        · subst hk2
          rw [her] at d8
          have hI1 : ¬ ((I : Int) < 60) := by omega
          have hI2 : ¬ ((I : Int) ≤ 60) := by omega
          have HR6 := hideIt hR6
          have HM9 := hideIt (HM8.out.sub (l' := x6.as ++ [As.blk gt #[kv, vv] 55, As.row 3 1 kv l (ints T.1), As.row 3 1 vv l (ints T.2)]) (List.Sublist.append_left (List.sublist_append_left [As.blk gt #[kv, vv] 55, As.row 3 1 kv l (ints T.1), As.row 3 1 vv l (ints T.2)] [As.blk go #[.int .i64 2, .int .i64 key, .int .i64 v] 36]) _))
          clear hR6 her HM8 HNO
          cases fd
          · go_wp2
            go_roundw
            case rel => exact ⟨j + 1, x6, T, I, l, kv, vv, rfl, by go_num, by omega, by omega, by omega, hl.out, by unfold Hid; have := HNW6.out; omega, HN6.out, HR6.out, HM9.out⟩
            case measure => simp [intOf]; omega
          · go_wp2
            go_roundw
            case rel => exact ⟨j + 1, x6, T, I, l, kv, vv, rfl, by go_num, by omega, by omega, by omega, hl.out, by unfold Hid; have := HNW6.out; omega, HN6.out, HR6.out, HM9.out⟩
            case measure => simp [intOf]; omega
        · rw [her] at d8
          obtain ⟨hv1, hv2⟩ := hval fd u HV.out
          have HFD := hideIt hv1
          have HVA := hideIt hv2
          have HR6 := hideIt hR6
          have HGET := hideIt hget
          have HTL := hideIt (tdo_len k key v T.1 T.2 (by rw [hl.out.1, hl.out.2]))
          have hTP := HM8.out.perm (l' := [As.blk gt #[kv, vv] 55, As.row 3 1 kv l (ints T.1), As.row 3 1 vv l (ints T.2)] ++ (x6.as ++ [As.blk go #[.int .i64 k, .int .i64 key, .int .i64 v] 36])) (List.perm_append_comm_assoc [As.blk gt #[kv, vv] 55, As.row 3 1 kv l (ints T.1), As.row 3 1 vv l (ints T.2)] x6.as [As.blk go #[.int .i64 k, .int .i64 key, .int .i64 v] 36])
          have CD := hideIt (do_any gt l kv vv T.1 T.2 k key v (x6.as ++ [As.blk go #[.int .i64 k, .int .i64 key, .int .i64 v] 36]) w1 w8 gw (by omega) hl.out.1 hl.out.2 hTP)
          obtain ⟨T2, hT2⟩ : ∃ y, tdo k key v T.1 T.2 = y := ⟨_, rfl⟩
          rw [hT2] at CD HTL HR6
          have hl2 : T2.1.length ≤ j + 1 := by have := HTL.out.2; rw [hl.out.1] at this; omega
          have HL2 : Hid (T2.2.length = T2.1.length) := HTL.out.1.symm
          clear hR6 her hval hget HNO HV hv1 hv2 hTP hT2 HM8 HTL
          have hk123 : k = 1 ∨ k = 2 ∨ k = 3 := by omega
          rcases hk123 with rfl | rfl | rfl
          · cases fd
            · go_wp2_with fail
              refine CD.out.mono ?_
              rintro e w9 ⟨⟨u9, rfl⟩, kv9, vv9, hM9⟩
              have D := M.deed (pre := [_, _, _]) (fr := [As.blk go #[.int .i64 1, .int .i64 key, .int .i64 v] 36]) hM9 HDS.out
              have e9 := D.cell (i := 0) rfl 9 (.bool d.fd) rfl
              have e10 := D.cell (i := 0) rfl 10 (.int .i64 d.va) rfl
              rw [HGD.out, HFD.out] at e9
              rw [HGD.out, HVA.out] at e10
              have e4 := D.cell (i := 0) rfl 4 d.tm rfl
              have e11 := D.cell (i := 0) rfl 11 (.int .i64 d.pt) rfl
              obtain ⟨ta, tc, htm⟩ := As.form0 (D.get (i := 2) rfl)
              rw [HGD.out, htm] at e4
              rw [HGD.out] at e11
              have HM10 := hideIt (hM9.perm (l' := x6.as ++ ([As.blk gt #[kv9, vv9] 55, As.row 3 1 kv9 T2.1.length (ints T2.1), As.row 3 1 vv9 T2.1.length (ints T2.2)] ++ [As.blk go #[.int .i64 1, .int .i64 key, .int .i64 v] 36])) (List.perm_append_comm_assoc x6.as [As.blk gt #[kv9, vv9] 55, As.row 3 1 kv9 T2.1.length (ints T2.1), As.row 3 1 vv9 T2.1.length (ints T2.2)] [As.blk go #[.int .i64 1, .int .i64 key, .int .i64 v] 36]))
              have HM11 := hideIt (HM10.out.sub (l' := x6.as ++ [As.blk gt #[kv9, vv9] 55, As.row 3 1 kv9 T2.1.length (ints T2.1), As.row 3 1 vv9 T2.1.length (ints T2.2)]) (List.Sublist.append_left (List.sublist_append_left [As.blk gt #[kv9, vv9] 55, As.row 3 1 kv9 T2.1.length (ints T2.1), As.row 3 1 vv9 T2.1.length (ints T2.2)] [As.blk go #[.int .i64 1, .int .i64 key, .int .i64 v] 36]) _))
              have q0 := HM10.out.cellMem (b := go) (c := #[.int .i64 1, .int .i64 key, .int .i64 v]) (t := 36) (by simp) 0 _ rfl
              have hg9 : gd < w9.heap.size := lt_of_cell e9
              have hgo9 : go < w9.heap.size := lt_of_cell q0
              have huu : (u != u) = false := by simp
              clear CD D hM9 htm d8 o0 o1 o2 hgot hgdl HM10
              have HR7 : Hid (Rs gw x6 T2 (I + 0)) := by have := HR6.out; rw [HFD.out] at this; exact this
              clear HR6 HFD HVA
              rcases HGET.out (by trivial) with hq | hq
              · have hxt : xrf = true := by rw [← HXRF.out]; exact hq
                subst hxt
                clear e4 e11 hq
                go_wp2
                go_roundw
                case rel => exact ⟨j + 1, x6, T2, I + 0, T2.1.length, kv9, vv9, rfl, by go_num, by omega, by omega, hl2, ⟨rfl, HL2.out⟩, by unfold Hid; have := HNW6.out; omega, HN6.out, HR7.out, HM11.out⟩
                case measure => simp [intOf]; omega
              · obtain ⟨hq1, hq2⟩ := hq nd HSY.out
                rw [hq2] at e11
                obtain ⟨nt, hnt⟩ : ∃ n, d.ts.length = n := ⟨_, rfl⟩
                rw [hnt] at e4 hq1
                clear hq hq2 hnt
                have hb1 : (((nt : Nat) : Int) != nd.lv + 1) = false := by simp [hq1]
                have hb2 : (nd.lv != nd.lv) = false := by simp
                cases xrf
                · go_wp2
                  go_roundw
                  case rel => exact ⟨j + 1, x6, T2, I + 0, T2.1.length, kv9, vv9, rfl, by go_num, by omega, by omega, hl2, ⟨rfl, HL2.out⟩, by unfold Hid; have := HNW6.out; omega, HN6.out, HR7.out, HM11.out⟩
                  case measure => simp [intOf]; omega
                · go_wp2
                  go_roundw
                  case rel => exact ⟨j + 1, x6, T2, I + 0, T2.1.length, kv9, vv9, rfl, by go_num, by omega, by omega, hl2, ⟨rfl, HL2.out⟩, by unfold Hid; have := HNW6.out; omega, HN6.out, HR7.out, HM11.out⟩
                  case measure => simp [intOf]; omega
            · go_wp2_with fail
              refine CD.out.mono ?_
              rintro e w9 ⟨⟨u9, rfl⟩, kv9, vv9, hM9⟩
              have D := M.deed (pre := [_, _, _]) (fr := [As.blk go #[.int .i64 1, .int .i64 key, .int .i64 v] 36]) hM9 HDS.out
              have e9 := D.cell (i := 0) rfl 9 (.bool d.fd) rfl
              have e10 := D.cell (i := 0) rfl 10 (.int .i64 d.va) rfl
              rw [HGD.out, HFD.out] at e9
              rw [HGD.out, HVA.out] at e10
              have e4 := D.cell (i := 0) rfl 4 d.tm rfl
              have e11 := D.cell (i := 0) rfl 11 (.int .i64 d.pt) rfl
              obtain ⟨ta, tc, htm⟩ := As.form0 (D.get (i := 2) rfl)
              rw [HGD.out, htm] at e4
              rw [HGD.out] at e11
              have HM10 := hideIt (hM9.perm (l' := x6.as ++ ([As.blk gt #[kv9, vv9] 55, As.row 3 1 kv9 T2.1.length (ints T2.1), As.row 3 1 vv9 T2.1.length (ints T2.2)] ++ [As.blk go #[.int .i64 1, .int .i64 key, .int .i64 v] 36])) (List.perm_append_comm_assoc x6.as [As.blk gt #[kv9, vv9] 55, As.row 3 1 kv9 T2.1.length (ints T2.1), As.row 3 1 vv9 T2.1.length (ints T2.2)] [As.blk go #[.int .i64 1, .int .i64 key, .int .i64 v] 36]))
              have HM11 := hideIt (HM10.out.sub (l' := x6.as ++ [As.blk gt #[kv9, vv9] 55, As.row 3 1 kv9 T2.1.length (ints T2.1), As.row 3 1 vv9 T2.1.length (ints T2.2)]) (List.Sublist.append_left (List.sublist_append_left [As.blk gt #[kv9, vv9] 55, As.row 3 1 kv9 T2.1.length (ints T2.1), As.row 3 1 vv9 T2.1.length (ints T2.2)] [As.blk go #[.int .i64 1, .int .i64 key, .int .i64 v] 36]) _))
              have q0 := HM10.out.cellMem (b := go) (c := #[.int .i64 1, .int .i64 key, .int .i64 v]) (t := 36) (by simp) 0 _ rfl
              have hg9 : gd < w9.heap.size := lt_of_cell e9
              have hgo9 : go < w9.heap.size := lt_of_cell q0
              have huu : (u != u) = false := by simp
              clear CD D hM9 htm d8 o0 o1 o2 hgot hgdl HM10
              have HR7 : Hid (Rs gw x6 T2 (I + 0)) := by have := HR6.out; rw [HFD.out] at this; exact this
              clear HR6 HFD HVA
              rcases HGET.out (by trivial) with hq | hq
              · have hxt : xrf = true := by rw [← HXRF.out]; exact hq
                subst hxt
                clear e4 e11 hq
                go_wp2
                go_roundw
                case rel => exact ⟨j + 1, x6, T2, I + 0, T2.1.length, kv9, vv9, rfl, by go_num, by omega, by omega, hl2, ⟨rfl, HL2.out⟩, by unfold Hid; have := HNW6.out; omega, HN6.out, HR7.out, HM11.out⟩
                case measure => simp [intOf]; omega
              · obtain ⟨hq1, hq2⟩ := hq nd HSY.out
                rw [hq2] at e11
                obtain ⟨nt, hnt⟩ : ∃ n, d.ts.length = n := ⟨_, rfl⟩
                rw [hnt] at e4 hq1
                clear hq hq2 hnt
                have hb1 : (((nt : Nat) : Int) != nd.lv + 1) = false := by simp [hq1]
                have hb2 : (nd.lv != nd.lv) = false := by simp
                cases xrf
                · go_wp2
                  go_roundw
                  case rel => exact ⟨j + 1, x6, T2, I + 0, T2.1.length, kv9, vv9, rfl, by go_num, by omega, by omega, hl2, ⟨rfl, HL2.out⟩, by unfold Hid; have := HNW6.out; omega, HN6.out, HR7.out, HM11.out⟩
                  case measure => simp [intOf]; omega
                · go_wp2
                  go_roundw
                  case rel => exact ⟨j + 1, x6, T2, I + 0, T2.1.length, kv9, vv9, rfl, by go_num, by omega, by omega, hl2, ⟨rfl, HL2.out⟩, by unfold Hid; have := HNW6.out; omega, HN6.out, HR7.out, HM11.out⟩
                  case measure => simp [intOf]; omega
          · cases fd
            · go_wp2_with fail
              refine CD.out.mono ?_
              rintro e w9 ⟨⟨u9, rfl⟩, kv9, vv9, hM9⟩
              have D := M.deed (pre := [_, _, _]) (fr := [As.blk go #[.int .i64 2, .int .i64 key, .int .i64 v] 36]) hM9 HDS.out
              have e9 := D.cell (i := 0) rfl 9 (.bool d.fd) rfl
              have e10 := D.cell (i := 0) rfl 10 (.int .i64 d.va) rfl
              rw [HGD.out, HFD.out] at e9
              rw [HGD.out, HVA.out] at e10
              have e4 := D.cell (i := 0) rfl 4 d.tm rfl
              have e11 := D.cell (i := 0) rfl 11 (.int .i64 d.pt) rfl
              obtain ⟨ta, tc, htm⟩ := As.form0 (D.get (i := 2) rfl)
              rw [HGD.out, htm] at e4
              rw [HGD.out] at e11
              have HM10 := hideIt (hM9.perm (l' := x6.as ++ ([As.blk gt #[kv9, vv9] 55, As.row 3 1 kv9 T2.1.length (ints T2.1), As.row 3 1 vv9 T2.1.length (ints T2.2)] ++ [As.blk go #[.int .i64 2, .int .i64 key, .int .i64 v] 36])) (List.perm_append_comm_assoc x6.as [As.blk gt #[kv9, vv9] 55, As.row 3 1 kv9 T2.1.length (ints T2.1), As.row 3 1 vv9 T2.1.length (ints T2.2)] [As.blk go #[.int .i64 2, .int .i64 key, .int .i64 v] 36]))
              have HM11 := hideIt (HM10.out.sub (l' := x6.as ++ [As.blk gt #[kv9, vv9] 55, As.row 3 1 kv9 T2.1.length (ints T2.1), As.row 3 1 vv9 T2.1.length (ints T2.2)]) (List.Sublist.append_left (List.sublist_append_left [As.blk gt #[kv9, vv9] 55, As.row 3 1 kv9 T2.1.length (ints T2.1), As.row 3 1 vv9 T2.1.length (ints T2.2)] [As.blk go #[.int .i64 2, .int .i64 key, .int .i64 v] 36]) _))
              have q0 := HM10.out.cellMem (b := go) (c := #[.int .i64 2, .int .i64 key, .int .i64 v]) (t := 36) (by simp) 0 _ rfl
              have hg9 : gd < w9.heap.size := lt_of_cell e9
              have hgo9 : go < w9.heap.size := lt_of_cell q0
              have huu : (u != u) = false := by simp
              clear CD D hM9 htm d8 o0 o1 o2 hgot hgdl HM10
              have HR7 : Hid (Rs gw x6 T2 (I + 1)) := by have := HR6.out; rw [HFD.out] at this; exact this
              clear HR6 HFD HVA
              clear e4 e11
              go_wp2
              go_roundw
              case rel => exact ⟨j + 1, x6, T2, I + 1, T2.1.length, kv9, vv9, by go_num, by go_num, by omega, by omega, hl2, ⟨rfl, HL2.out⟩, by unfold Hid; have := HNW6.out; omega, HN6.out, HR7.out, HM11.out⟩
              case measure => simp [intOf]; omega
            · go_wp2_with fail
              refine CD.out.mono ?_
              rintro e w9 ⟨⟨u9, rfl⟩, kv9, vv9, hM9⟩
              have D := M.deed (pre := [_, _, _]) (fr := [As.blk go #[.int .i64 2, .int .i64 key, .int .i64 v] 36]) hM9 HDS.out
              have e9 := D.cell (i := 0) rfl 9 (.bool d.fd) rfl
              have e10 := D.cell (i := 0) rfl 10 (.int .i64 d.va) rfl
              rw [HGD.out, HFD.out] at e9
              rw [HGD.out, HVA.out] at e10
              have e4 := D.cell (i := 0) rfl 4 d.tm rfl
              have e11 := D.cell (i := 0) rfl 11 (.int .i64 d.pt) rfl
              obtain ⟨ta, tc, htm⟩ := As.form0 (D.get (i := 2) rfl)
              rw [HGD.out, htm] at e4
              rw [HGD.out] at e11
              have HM10 := hideIt (hM9.perm (l' := x6.as ++ ([As.blk gt #[kv9, vv9] 55, As.row 3 1 kv9 T2.1.length (ints T2.1), As.row 3 1 vv9 T2.1.length (ints T2.2)] ++ [As.blk go #[.int .i64 2, .int .i64 key, .int .i64 v] 36])) (List.perm_append_comm_assoc x6.as [As.blk gt #[kv9, vv9] 55, As.row 3 1 kv9 T2.1.length (ints T2.1), As.row 3 1 vv9 T2.1.length (ints T2.2)] [As.blk go #[.int .i64 2, .int .i64 key, .int .i64 v] 36]))
              have HM11 := hideIt (HM10.out.sub (l' := x6.as ++ [As.blk gt #[kv9, vv9] 55, As.row 3 1 kv9 T2.1.length (ints T2.1), As.row 3 1 vv9 T2.1.length (ints T2.2)]) (List.Sublist.append_left (List.sublist_append_left [As.blk gt #[kv9, vv9] 55, As.row 3 1 kv9 T2.1.length (ints T2.1), As.row 3 1 vv9 T2.1.length (ints T2.2)] [As.blk go #[.int .i64 2, .int .i64 key, .int .i64 v] 36]) _))
              have q0 := HM10.out.cellMem (b := go) (c := #[.int .i64 2, .int .i64 key, .int .i64 v]) (t := 36) (by simp) 0 _ rfl
              have hg9 : gd < w9.heap.size := lt_of_cell e9
              have hgo9 : go < w9.heap.size := lt_of_cell q0
              have huu : (u != u) = false := by simp
              clear CD D hM9 htm d8 o0 o1 o2 hgot hgdl HM10
              have HR7 : Hid (Rs gw x6 T2 (I + 0)) := by have := HR6.out; rw [HFD.out] at this; exact this
              clear HR6 HFD HVA
              clear e4 e11
              go_wp2
              go_roundw
              case rel => exact ⟨j + 1, x6, T2, I + 0, T2.1.length, kv9, vv9, rfl, by go_num, by omega, by omega, hl2, ⟨rfl, HL2.out⟩, by unfold Hid; have := HNW6.out; omega, HN6.out, HR7.out, HM11.out⟩
              case measure => simp [intOf]; omega
          · cases fd
            · go_wp2_with fail
              refine CD.out.mono ?_
              rintro e w9 ⟨⟨u9, rfl⟩, kv9, vv9, hM9⟩
              have D := M.deed (pre := [_, _, _]) (fr := [As.blk go #[.int .i64 3, .int .i64 key, .int .i64 v] 36]) hM9 HDS.out
              have e9 := D.cell (i := 0) rfl 9 (.bool d.fd) rfl
              have e10 := D.cell (i := 0) rfl 10 (.int .i64 d.va) rfl
              rw [HGD.out, HFD.out] at e9
              rw [HGD.out, HVA.out] at e10
              have e4 := D.cell (i := 0) rfl 4 d.tm rfl
              have e11 := D.cell (i := 0) rfl 11 (.int .i64 d.pt) rfl
              obtain ⟨ta, tc, htm⟩ := As.form0 (D.get (i := 2) rfl)
              rw [HGD.out, htm] at e4
              rw [HGD.out] at e11
              have HM10 := hideIt (hM9.perm (l' := x6.as ++ ([As.blk gt #[kv9, vv9] 55, As.row 3 1 kv9 T2.1.length (ints T2.1), As.row 3 1 vv9 T2.1.length (ints T2.2)] ++ [As.blk go #[.int .i64 3, .int .i64 key, .int .i64 v] 36])) (List.perm_append_comm_assoc x6.as [As.blk gt #[kv9, vv9] 55, As.row 3 1 kv9 T2.1.length (ints T2.1), As.row 3 1 vv9 T2.1.length (ints T2.2)] [As.blk go #[.int .i64 3, .int .i64 key, .int .i64 v] 36]))
              have HM11 := hideIt (HM10.out.sub (l' := x6.as ++ [As.blk gt #[kv9, vv9] 55, As.row 3 1 kv9 T2.1.length (ints T2.1), As.row 3 1 vv9 T2.1.length (ints T2.2)]) (List.Sublist.append_left (List.sublist_append_left [As.blk gt #[kv9, vv9] 55, As.row 3 1 kv9 T2.1.length (ints T2.1), As.row 3 1 vv9 T2.1.length (ints T2.2)] [As.blk go #[.int .i64 3, .int .i64 key, .int .i64 v] 36]) _))
              have q0 := HM10.out.cellMem (b := go) (c := #[.int .i64 3, .int .i64 key, .int .i64 v]) (t := 36) (by simp) 0 _ rfl
              have hg9 : gd < w9.heap.size := lt_of_cell e9
              have hgo9 : go < w9.heap.size := lt_of_cell q0
              have huu : (u != u) = false := by simp
              clear CD D hM9 htm d8 o0 o1 o2 hgot hgdl HM10
              have HR7 : Hid (Rs gw x6 T2 (I + 0)) := by have := HR6.out; rw [HFD.out] at this; exact this
              clear HR6 HFD HVA
              clear e4 e11
              go_wp2
              go_roundw
              case rel => exact ⟨j + 1, x6, T2, I + 0, T2.1.length, kv9, vv9, rfl, by go_num, by omega, by omega, hl2, ⟨rfl, HL2.out⟩, by unfold Hid; have := HNW6.out; omega, HN6.out, HR7.out, HM11.out⟩
              case measure => simp [intOf]; omega
            · go_wp2_with fail
              refine CD.out.mono ?_
              rintro e w9 ⟨⟨u9, rfl⟩, kv9, vv9, hM9⟩
              have D := M.deed (pre := [_, _, _]) (fr := [As.blk go #[.int .i64 3, .int .i64 key, .int .i64 v] 36]) hM9 HDS.out
              have e9 := D.cell (i := 0) rfl 9 (.bool d.fd) rfl
              have e10 := D.cell (i := 0) rfl 10 (.int .i64 d.va) rfl
              rw [HGD.out, HFD.out] at e9
              rw [HGD.out, HVA.out] at e10
              have e4 := D.cell (i := 0) rfl 4 d.tm rfl
              have e11 := D.cell (i := 0) rfl 11 (.int .i64 d.pt) rfl
              obtain ⟨ta, tc, htm⟩ := As.form0 (D.get (i := 2) rfl)
              rw [HGD.out, htm] at e4
              rw [HGD.out] at e11
              have HM10 := hideIt (hM9.perm (l' := x6.as ++ ([As.blk gt #[kv9, vv9] 55, As.row 3 1 kv9 T2.1.length (ints T2.1), As.row 3 1 vv9 T2.1.length (ints T2.2)] ++ [As.blk go #[.int .i64 3, .int .i64 key, .int .i64 v] 36])) (List.perm_append_comm_assoc x6.as [As.blk gt #[kv9, vv9] 55, As.row 3 1 kv9 T2.1.length (ints T2.1), As.row 3 1 vv9 T2.1.length (ints T2.2)] [As.blk go #[.int .i64 3, .int .i64 key, .int .i64 v] 36]))
              have HM11 := hideIt (HM10.out.sub (l' := x6.as ++ [As.blk gt #[kv9, vv9] 55, As.row 3 1 kv9 T2.1.length (ints T2.1), As.row 3 1 vv9 T2.1.length (ints T2.2)]) (List.Sublist.append_left (List.sublist_append_left [As.blk gt #[kv9, vv9] 55, As.row 3 1 kv9 T2.1.length (ints T2.1), As.row 3 1 vv9 T2.1.length (ints T2.2)] [As.blk go #[.int .i64 3, .int .i64 key, .int .i64 v] 36]) _))
              have q0 := HM10.out.cellMem (b := go) (c := #[.int .i64 3, .int .i64 key, .int .i64 v]) (t := 36) (by simp) 0 _ rfl
              have hg9 : gd < w9.heap.size := lt_of_cell e9
              have hgo9 : go < w9.heap.size := lt_of_cell q0
              have huu : (u != u) = false := by simp
              clear CD D hM9 htm d8 o0 o1 o2 hgot hgdl HM10
              have HR7 : Hid (Rs gw x6 T2 (I + 0)) := by have := HR6.out; rw [HFD.out] at this; exact this
              clear HR6 HFD HVA
              clear e4 e11
              go_wp2
              go_roundw
              case rel => exact ⟨j + 1, x6, T2, I + 0, T2.1.length, kv9, vv9, rfl, by go_num, by omega, by omega, hl2, ⟨rfl, HL2.out⟩, by unfold Hid; have := HNW6.out; omega, HN6.out, HR7.out, HM11.out⟩
              case measure => simp [intOf]; omega
    · obtain rfl : j = n := by omega
      have HB3 := hideIt (step HB1.out (by have := hM.out.bl; rw [← HGW.out] at this; exact this))
      clear hM hR
      go_wp2
      go_ret
      exact ⟨rfl, HB3.out⟩
end Go.Proofs.YtajobgmnmbnhiaaGreatDoor.Sap

/- WHAT IS PROVED HERE: a script that is handed in lies in memory as a list of turns; where what is handed in is of bulk at most 1048576, it has at most as many turns. Conditions: named at each theorem. -/
namespace Go.Proofs.YtajobgmnmbnhiaaGreatDoor.Sap
open Go.RowKit Go.ChangeShapes Go.WideShapes Go.Deep

theorem cellsTurn : Tryz.prog.cellsOf 84 = 5 := by kernel_rfl
theorem cellsOp : Tryz.prog.cellsOf 36 = 3 := by kernel_rfl
theorem cellsI : Tryz.prog.cellsOf 3 = 1 := by kernel_rfl
theorem i64_of {n : Int} (h : (Lit.int .i64 n).wf = true) : I64 n := by
  simpa [I64, Lit.wf, IntKind.min, IntKind.max, IntKind.signed, IntKind.bits] using h

theorem list5s {α : Type} {l : List α} (h : l.length = 5) : ∃ a b c d e, l = [a, b, c, d, e] := by
  match l, h with
  | [a, b, c, d, e], _ => exact ⟨a, b, c, d, e, rfl⟩
theorem list3s {α : Type} {l : List α} (h : l.length = 3) : ∃ a b c, l = [a, b, c] := by
  match l, h with
  | [a, b, c], _ => exact ⟨a, b, c, rfl⟩

/-- The five cells of a turn. -/
theorem turn_in {H : Type} {enc : TypeId × Value → H} {W : World} {base : Nat} {fuel : Nat} {cs : List Value} {x : DataW H × List MemPlace} {sp : Nat → Bool}
    (h : DataW.trod enc Tryz.prog W base sp true fuel 84 cs = some x) : ∃ t : Tn, t.ok ∧ cs = [.int .i64 t.cl, .int .i64 t.k, .int .i64 t.key, .int .i64 t.v, .int .i64 t.mv] := by
  obtain ⟨xs, m, -, -, hl, hlen, hf⟩ := DataW.trod_struct Tryz.underlying84 h
  rw [cellsTurn] at hl
  obtain ⟨c0, c1, c2, c3, c4, rfl⟩ := list5s hl
  obtain ⟨y0, y1, y2, rfl⟩ := list3s (l := xs) hlen
  have f0 : DataW.trod enc Tryz.prog W base sp true m 3 (List.take (Tryz.prog.cellsOf 3) [c0, c1, c2, c3, c4]) = some y0 := hf 0 _ rfl
  have f1 : DataW.trod enc Tryz.prog W base sp true m 36 (List.take (Tryz.prog.cellsOf 36) [c1, c2, c3, c4]) = some y1 := hf 1 _ rfl
  have f2 : DataW.trod enc Tryz.prog W base sp true m 3 (List.take (Tryz.prog.cellsOf 3) [c4]) = some y2 := hf 2 _ rfl
  rw [cellsI] at f0 f2
  rw [cellsOp] at f1
  obtain ⟨cl, e0, -, w0⟩ := DataW.trod_int Tryz.underlying3 f0
  obtain ⟨mv, e4, -, w4⟩ := DataW.trod_int Tryz.underlying3 f2
  obtain ⟨zs, m2, -, -, -, hlen2, hg⟩ := DataW.trod_struct Tryz.underlying36 f1
  obtain ⟨z0, z1, z2, rfl⟩ := list3s (l := zs) hlen2
  have g0 : DataW.trod enc Tryz.prog W base sp true m2 3 (List.take (Tryz.prog.cellsOf 3) [c1, c2, c3]) = some z0 := hg 0 _ rfl
  have g1 : DataW.trod enc Tryz.prog W base sp true m2 3 (List.take (Tryz.prog.cellsOf 3) [c2, c3]) = some z1 := hg 1 _ rfl
  have g2 : DataW.trod enc Tryz.prog W base sp true m2 3 (List.take (Tryz.prog.cellsOf 3) [c3]) = some z2 := hg 2 _ rfl
  rw [cellsI] at g0 g1 g2
  obtain ⟨k, e1, -, w1⟩ := DataW.trod_int Tryz.underlying3 g0
  obtain ⟨key, e2, -, w2⟩ := DataW.trod_int Tryz.underlying3 g1
  obtain ⟨v, e3, -, w3⟩ := DataW.trod_int Tryz.underlying3 g2
  simp only [List.take_succ_cons, List.take_zero, List.cons.injEq, and_true] at e0 e1 e2 e3 e4
  subst e0 e1 e2 e3 e4
  exact ⟨⟨cl, k, key, v, mv⟩, ⟨i64_of w0, i64_of w1, i64_of w2, i64_of w3, i64_of w4⟩, rfl⟩

/-- A script that is handed in. -/
theorem script_in {H : Type} {enc : TypeId × Value → H} {W : World} {base : Nat} {fuel : Nat} {c : Value} {x : DataW H × List MemPlace} {sp : Nat → Bool}
    (h : DataW.trod enc Tryz.prog W base sp true fuel 59 [c] = some x) :
    ∃ ts : List Tn, TRd W c ts ∧ (∀ t ∈ ts, t.ok) ∧ (ts = [] ∨ ∃ e s, x.1 = .slice e s ∧ ts.length = e.length) := by
  rcases open_slice Tryz.underlying59 h with ⟨hc, -⟩ | ⟨a, len, cap, m, n, D, Pl, hc, -, hlc, -, hm, hx, hel⟩
  · simp only [List.cons.injEq, and_true] at hc
    subst hc
    exact ⟨[], ⟨none, 0, rfl, fun hp => absurd hp (by decide)⟩, fun t ht => (by cases ht), Or.inl rfl⟩
  · simp only [List.cons.injEq, and_true] at hc
    subst hc
    have hlm : len ≤ m := by rw [hm]; split <;> omega
    haveI : Inhabited Tn := ⟨⟨0, 0, 0, 0, 0⟩⟩
    obtain ⟨f, hf⟩ := choose_lt (α := Tn) (n := len) (p := fun i t => t.ok ∧ W.cell? (a.add (i * 5)) = some (.int .i64 t.cl) ∧ W.cell? (a.add (i * 5 + 1)) = some (.int .i64 t.k) ∧ W.cell? (a.add (i * 5 + 2)) = some (.int .i64 t.key) ∧ W.cell? (a.add (i * 5 + 3)) = some (.int .i64 t.v) ∧ W.cell? (a.add (i * 5 + 4)) = some (.int .i64 t.mv)) (fun i hi => by
      obtain ⟨cs', h1, h2⟩ := hel i (by omega)
      rw [cellsTurn] at h1
      obtain ⟨-, -, hcell⟩ := World.cells?_some h1
      obtain ⟨t, hok, rfl⟩ := turn_in h2
      have e0 := hcell 0 (by omega)
      have e1 := hcell 1 (by omega)
      have e2 := hcell 2 (by omega)
      have e3 := hcell 3 (by omega)
      have e4 := hcell 4 (by omega)
      rw [add_add] at e0 e1 e2 e3 e4
      exact ⟨t, hok, e0, e1, e2, e3, e4⟩)
    refine ⟨(List.range len).map f, ⟨some a, cap, by rw [List.length_map, List.length_range], fun hp => ?_⟩, fun t ht => ?_, Or.inr ⟨_, _, by rw [hx], by rw [List.length_map, List.length_map]⟩⟩
    · rw [List.length_map, List.length_range] at hp
      obtain ⟨b, off, spot⟩ := a
      have hspot : spot = none := by simpa [Addr.add] using World.cell?_spot (hf 0 hp).2.1
      subst hspot
      refine ⟨b, off, rfl, fun j t hj => ?_⟩
      have hjl : j < len := by have := (List.getElem?_eq_some_iff.1 hj).1; rw [List.length_map, List.length_range] at this; exact this
      obtain rfl : f j = t := by rw [List.getElem?_map, List.getElem?_range hjl] at hj; exact Option.some.inj hj
      have := (hf j hjl).2
      simp only [add_plain] at this
      simpa only [Nat.add_assoc] using this
    · obtain ⟨j, hj, rfl⟩ := List.mem_map.1 ht
      exact (hf j (List.mem_range.1 hj)).1

/-- How many turns, where the bulk is bound. -/
theorem bulk_one {H : Type} (d : DataW H) : 1 ≤ Rows.uptoBulk d := by
  cases d with
  | lit l => cases l <;> simp [Rows.uptoBulk]
  | nil => simp [Rows.uptoBulk]
  | ptr d => simp [Rows.uptoBulk]
  | slice elems spare => simp [Rows.uptoBulk]
  | agg parts => simp [Rows.uptoBulk]
  | iface t d => simp [Rows.uptoBulk]
  | map entries => simp [Rows.uptoBulk]
  | held h => simp [Rows.uptoBulk]
theorem bulk_len {H : Type} (l : List (DataW H)) : l.length ≤ Rows.uptoBulkAll l := by
  induction l with
  | nil => simp [Rows.uptoBulkAll]
  | cons x r ih => have := bulk_one x; simp only [Rows.uptoBulkAll, List.length_cons]; omega
theorem bulk_slice {H : Type} {d : DataW H} {r : List (DataW H)} {e s : List (DataW H)} (hd : d = .slice e s) (hk : Rows.uptoSmall H (d :: r) = true) : e.length ≤ 1048576 := by
  have h1 := of_decide_eq_true hk
  have h2 := bulk_len e
  rw [hd] at h1
  simp only [Rows.uptoBulkAll, Rows.uptoBulk] at h1
  omega
end Go.Proofs.YtajobgmnmbnhiaaGreatDoor.Sap
