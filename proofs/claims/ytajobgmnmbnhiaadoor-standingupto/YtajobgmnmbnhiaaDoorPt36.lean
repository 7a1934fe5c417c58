/- WHAT IS PROVED HERE: saplingkeep's took: the Puts and Drops that took effect, in the order of their Points. Conditions: all operations have ended, and the Point of each is one of its accesses. -/
import Derived.Test.YtajobgmnmbnhiaaDoorPt32
import Derived.BigRegion
import Derived.BigQuiet
namespace Go.Proofs.YtajobgmnmbnhiaaDoor.Sap
open Go.RowKit
def tkD (d : Dd) : Option Dn := if (d.k = 2 ∨ d.k = 3) ∧ d.er = 0 then some ⟨d.ts[d.pt.toNat]?.getD 0, d.k, d.key, d.v⟩ else none
def Dd.over (d : Dd) : Prop := d.en = true ∧ ∃ p : Nat, d.pt = (p : Int) ∧ p < d.ts.length ∧ d.ts.length ≤ 100000000
theorem M.deed {w0 w : World} {B i : Nat} {x : Wd} {d : Dd} {pre fr : List As} (h : M w0 B w (pre ++ (x.as ++ fr))) (hd : x.ds[i]? = some d) : M w0 B w (d.hd ++ (x.hd ++ (d.tl ++ ((x.ds.take i).flatMap Dd.as ++ ((x.ds.drop (i + 1)).flatMap Dd.as ++ (fr ++ pre)))))) := by
  have h1 := h.perm (l' := (x.as ++ (fr ++ pre))) (by rw [← List.append_assoc]; exact List.perm_append_comm)
  unfold Wd.as at h1
  rw [x.split i d hd] at h1
  exact h1.perm (perm_deed _ _ _ _ _ _)
def pvK : Nat → Int | 0 => 1 | 1 => 2 | 2 => 1 | 3 => 4 | 4 => 3 | _ => 1
def pvY : Nat → Int | 3 => 1 | _ => 5
def pvV : Nat → Int | 1 => 50 | 3 => 9 | _ => 0
def pvW : Nat → Int | 2 => 50 | 3 => 1 | 4 => 50 | _ => 0
structure Pvd (Pv Pb : Nat → Wd → Prop) (gw : Nat) (w0 : World) (B : Nat) : Prop where
  pg : ∀ i x, Pv i x → x.gw = gw
  pb : ∀ i x, Pb i x → x.gw = gw
  bg : ∀ i x W (fr : List As), i < 6 → Pv i x → M w0 B W (x.as ++ fr) → Calls Tryd.prog 55 #[.pointer (some ⟨gw, 0, none⟩), .int .i64 0, .agg #[.int .i64 (pvK i), .int .i64 (pvY i), .int .i64 (pvV i)]] W fun e w' => (∃ u, e = .returned u) ∧ ∃ x', Pb i x' ∧ M w0 B w' (x'.as ++ fr)
  al : ∀ i x W (fr : List As), i < 6 → Pb i x → M w0 B W (x.as ++ fr) → Calls Tryd.prog 37 #[.pointer (some ⟨gw, 0, none⟩), .int .i64 0] W fun e w' => (∃ u, e = .returned u) ∧ ∃ x' n d, Pv (i + 1) x' ∧ x'.ds.length = n + 1 ∧ n ≤ 100 ∧ x'.ds[n]? = some d ∧ d.er = 0 ∧ d.va = pvW i ∧ d.fd = decide (0 < pvW i) ∧ M w0 B w' (x'.as ++ fr)
set_option maxRecDepth 100000 in
set_option maxHeartbeats 6400000 in
theorem proved_gen (Pv Pb : Nat → Wd → Prop) (w : World) (m : Pvd Pv Pb w.heap.size w w.heap.size) (h0 : ∀ tg tc ug uc vg vc bg bc, Pv 0 (Wd.first w.heap.size tg tc ug uc vg vc bg bc)) :
    Calls Tryd.prog 27 #[] w fun e w' => e = .returned (.bool true) ∧ Below w.heap.size w w' := by
  have HMC := hideIt m
  have H0 := hideIt h0
  clear m h0
  obtain ⟨gw, hgw⟩ : ∃ g, w.heap.size = g := ⟨_, rfl⟩
  have HGW := hideIt hgw
  rw [hgw] at HMC H0 ⊢
  clear hgw
  go_enter Tryd.func27, Tryd.ntmps27
  go_wp2_with fail
  refine (fresh_wd w).mono ?_
  rintro e w1 ⟨rfl, tg, tc, ug, uc, vg, vc, bg, bc, hM⟩
  rw [HGW.out] at hM ⊢
  have A0 := hideIt hM
  clear hM
  have A1 := hideIt (A0.out.alloc #[.int .i64 1, .int .i64 5, .int .i64 0, .int .i64 2, .int .i64 5, .int .i64 50, .int .i64 1, .int .i64 5, .int .i64 0, .int .i64 4, .int .i64 1, .int .i64 9, .int .i64 3, .int .i64 5, .int .i64 0, .int .i64 1, .int .i64 5, .int .i64 0] 37)
  have A2 := hideIt (A1.out.alloc #[.int .i64 0, .int .i64 0, .int .i64 50, .int .i64 1, .int .i64 50, .int .i64 0] 3)
  clear A0 A1
  go_wp2
  rw [alloc_size] at A2
  obtain ⟨ga, hga⟩ : ∃ g, w1.heap.size = g := ⟨_, rfl⟩
  rw [hga] at A2 ⊢
  obtain ⟨FB, hFB⟩ : ∃ F, F = [As.blk (ga + 1) #[.int .i64 0, .int .i64 0, .int .i64 50, .int .i64 1, .int .i64 50, .int .i64 0] 3, As.blk ga #[.int .i64 1, .int .i64 5, .int .i64 0, .int .i64 2, .int .i64 5, .int .i64 50, .int .i64 1, .int .i64 5, .int .i64 0, .int .i64 4, .int .i64 1, .int .i64 9, .int .i64 3, .int .i64 5, .int .i64 0, .int .i64 1, .int .i64 5, .int .i64 0] 37] := ⟨_, rfl⟩
  have HOC : Hid (∀ (x : Wd) W, M w gw W (x.as ++ FB) → ∀ i, i < 6 → (W.cell? ⟨ga, i * 3, none⟩ = some (.int .i64 (pvK i)) ∧ W.cell? ⟨ga, i * 3 + 1, none⟩ = some (.int .i64 (pvY i)) ∧ W.cell? ⟨ga, i * 3 + 2, none⟩ = some (.int .i64 (pvV i)) ∧ W.cell? ⟨ga + 1, i, none⟩ = some (.int .i64 (pvW i)))) := by
    intro x W hM i hi
    have h1 : As.blk ga #[.int .i64 1, .int .i64 5, .int .i64 0, .int .i64 2, .int .i64 5, .int .i64 50, .int .i64 1, .int .i64 5, .int .i64 0, .int .i64 4, .int .i64 1, .int .i64 9, .int .i64 3, .int .i64 5, .int .i64 0, .int .i64 1, .int .i64 5, .int .i64 0] 37 ∈ x.as ++ FB := by rw [hFB]; simp
    have h2 : As.blk (ga + 1) #[.int .i64 0, .int .i64 0, .int .i64 50, .int .i64 1, .int .i64 50, .int .i64 0] 3 ∈ x.as ++ FB := by rw [hFB]; simp
    have hi6 : i = 0 ∨ i = 1 ∨ i = 2 ∨ i = 3 ∨ i = 4 ∨ i = 5 := by omega
    rcases hi6 with rfl | rfl | rfl | rfl | rfl | rfl <;> exact ⟨hM.cellIn h1 _ _ rfl, hM.cellIn h1 _ _ rfl, hM.cellIn h1 _ _ rfl, hM.cellIn h2 _ _ rfl⟩
  have A3 := hideIt (M.perm (l' := (Wd.first gw tg tc ug uc vg vc bg bc).as ++ FB) A2.out (by rw [hFB, List.append_nil]; exact List.perm_append_comm))
  clear A2 hFB hga
  go_loopw [4] (fun y wr => ∃ (i : Nat) (x : Wd), y = .int .i64 i ∧ i ≤ 6 ∧ Hid (Pv i x) ∧ Hid (M w gw wr (x.as ++ FB))) (fun i _ => 6 - (intOf i).toNat)
  case atStart => exact ⟨0, _, rfl, by omega, H0.out tg tc ug uc vg vc bg bc, A3.out⟩
  case round =>
    clear A3
    obtain ⟨i, x, rfl, hi, hP, hM⟩ := hrel
    have hg : Hid (x.gw = gw) := HMC.out.pg i x hP.out
    by_cases hlt : i < 6
    · have g14 := hM.out.cell (i := 0) rfl 14 (.bool false) rfl
      rw [hg.out] at g14
      obtain ⟨o0, o1, o2, -⟩ := HOC.out x wr hM.out i hlt
      have hi1 : (i : Int) < 6 := by omega
      have hi0 : (0 : Int) ≤ (i : Int) := by omega
      have CB := hideIt (HMC.out.bg i x wr FB hlt hP.out hM.out)
      clear hM hP hg
      go_wp2_with fail
      refine CB.out.mono ?_
      rintro e w2 ⟨⟨u, rfl⟩, x2, hP2, hM2⟩
      have HM2 := hideIt hM2
      have hg2 : Hid (x2.gw = gw) := HMC.out.pb i x2 hP2
      have g14 := hM2.cell (i := 0) rfl 14 (.bool false) rfl
      rw [hg2.out] at g14
      have CA := hideIt (HMC.out.al i x2 w2 FB hlt hP2 hM2)
      clear hM2 hP2 CB o0 o1 o2 hg2
      go_wp2_with fail
      refine CA.out.mono ?_
      rintro e w3 ⟨⟨u, rfl⟩, x3, n, d, hP3, hn, hn1, hd, her, hva, hfd, hM3⟩
      have HM3 := hideIt hM3
      have HP3 := hideIt hP3
      have hg3 : Hid (x3.gw = gw) := HMC.out.pg _ x3 hP3
      clear CA HM2
      have g14 := hM3.cell (i := 0) rfl 14 (.bool false) rfl
      obtain ⟨dg, dc, hdv⟩ := As.form (hM3.get (i := 2) rfl) (by omega)
      have g3 := hM3.cell (i := 0) rfl 3 x3.dv rfl
      rw [hdv, hn] at g3
      have hrow := hM3.get (i := 2) rfl
      have hdp : (x3.ds.map Dd.ptr)[n]? = some (.pointer (some ⟨d.gd, 0, none⟩)) := by rw [List.getElem?_map, hd]; rfl
      rw [hdv] at hrow
      have c0 := World.ownsRow.cellAt hrow.own n (by rw [hn]; omega)
      rw [hdp] at c0
      rw [hg3.out] at g14 g3
      have D := M.deed (pre := []) hM3 hd
      have d8 := D.cell (i := 0) rfl 8 (.int .i64 d.er) rfl
      have d9 := D.cell (i := 0) rfl 9 (.bool d.fd) rfl
      have d10 := D.cell (i := 0) rfl 10 (.int .i64 d.va) rfl
      have d11 := D.cell (i := 0) rfl 11 (.int .i64 d.pt) rfl
      have d12 := D.cell (i := 0) rfl 12 d.kv rfl
      have d13 := D.cell (i := 0) rfl 13 d.vv rfl
      have d14 := D.cell (i := 0) rfl 14 d.cv rfl
      obtain ⟨ak, ck, hkv⟩ := As.form0 (D.get (i := 9) rfl)
      obtain ⟨av, cv, hvv⟩ := As.form0 (D.get (i := 10) rfl)
      obtain ⟨ac, cc, hcv⟩ := As.form0 (D.get (i := 11) rfl)
      obtain ⟨-, -, -, o3⟩ := HOC.out x3 w3 hM3 i hlt
      rw [hkv] at d12
      rw [hvv] at d13
      rw [hcv] at d14
      rw [her] at d8
      rw [hva] at d10
      rw [hfd] at d9
      have hsz : d.gd < w3.heap.size := lt_of_cell d8
      obtain ⟨gd, hgd⟩ : ∃ y, d.gd = y := ⟨_, rfl⟩
      obtain ⟨pt, hpt⟩ : ∃ y, d.pt = y := ⟨_, rfl⟩
      obtain ⟨pw, hpw⟩ : ∃ y, pvW i = y := ⟨_, rfl⟩
      rw [hgd] at c0 d8 d9 d10 d11 d12 d13 d14 hsz
      rw [hpt] at d11
      rw [hpw] at d9 d10 o3
      generalize d.ks.length = nk at d12
      generalize d.vs.length = nv at d13
      generalize d.cs.length = nc at d14
      have hn0 : (0 : Int) ≤ (n : Int) := by omega
      have hgw3 : gw < w3.heap.size := lt_of_cell g3
      have hdg3 : dg < w3.heap.size := lt_of_cell c0
      have hga3 : ga + 1 < w3.heap.size := lt_of_cell o3
      have A5 := hideIt (hM3.alloc #[.int .i64 0, .bool (decide (0 < pw)), .int .i64 pw, .int .i64 pt, .slice ak nk ck, .slice av nv cv, .slice ac nc cc] 76)
      have hpw := hideIt hpw
      clear hva hfd her hM3 hP3 hd D hrow hdp hgd hpt hkv hvv hcv hdv HM3
      go_wp2
      go_region
      have A6 := hideIt A5.out.drew
      obtain ⟨gq, hgq⟩ : ∃ g, w3.heap.size = g := ⟨_, rfl⟩
      rw [hgq] at A6 ⊢
      generalize World.drew _ = w4 at A6 ⊢
      clear A5 hgq hsz hgw3 hdg3 hga3 d8 d9 d10 d11 d12 d13 d14 c0 g3 g14 o3
      have a0 := A6.out.cell (i := 0) rfl 0 (.int .i64 0) rfl
      have a1 := A6.out.cell (i := 0) rfl 1 (.bool (decide (0 < pw))) rfl
      have a2 := A6.out.cell (i := 0) rfl 2 (.int .i64 pw) rfl
      have A7 := hideIt (A6.out.sub (List.sublist_cons_self _ _))
      have g14 := A7.out.cell (i := 0) rfl 14 (.bool false) rfl
      rw [hg3.out] at g14
      obtain ⟨-, -, -, o3⟩ := HOC.out x3 w4 A7.out i hlt
      rw [hpw.out] at o3
      clear A6
      go_wp2
      go_quiet (fail)
      go_wp2
      go_roundw
      case rel => exact ⟨i + 1, x3, by go_num, by omega, HP3.out, A7.out.drewN _⟩
      case measure => simp [intOf]; omega
    · obtain rfl : i = 6 := by omega
      have HB := hideIt hM.out.bl
      clear hM
      go_wp2
      go_ret
      exact ⟨rfl, HB.out⟩
def ahead (l : List Dn) (time : Int) : List Dn := l.takeWhile fun d => decide (d.t < time)
structure Good (Inv : Nat → Wd → Prop) (rk : Nat → Wd → Nat) : Prop where
  pv : ∀ W, Tab W → ∃ Pv Pb, Pvd Pv Pb W.heap.size W W.heap.size ∧ ∀ tg tc ug uc vg vc bg bc, Pv 0 (Wd.first W.heap.size tg tc ug uc vg vc bg bc)
  mc : ∀ W, Tab W → Mc (Inv W.heap.size) rk W.heap.size W W.heap.size
  ini : ∀ gw tg tc ug uc vg vc bg bc, Inv gw (Wd.first gw tg tc ug uc vg vc bg bc)
  ov : ∀ gw x, Inv gw x → x.ov = .slice none 0 0
  over : ∀ gw x, Inv gw x → (∀ c, c < 64 → x.bs[c]? = some (-1)) → x.now ≤ 90000000 → ∀ d ∈ x.ds, d.over
end Go.Proofs.YtajobgmnmbnhiaaDoor.Sap
