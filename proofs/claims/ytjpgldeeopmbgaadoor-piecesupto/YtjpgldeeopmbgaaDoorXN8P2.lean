/- WHAT IS PROVED HERE: saplingkeep's proved: an operation of each kind at the beginning is answered as the document has it. Conditions: what begin and alone do at each of the six is given. -/
import Derived.Test.YtjpgldeeopmbgaaDoorXK4S3
import Derived.Test.YtjpgldeeopmbgaaDoorXN5N7
import Derived.BigRegion
import Derived.BigQuiet
namespace Go.Proofs.YtjpgldeeopmbgaaDoor.Sap
open Go.RowKit

def pvK : Nat → Int | 0 => 1 | 1 => 2 | 2 => 1 | 3 => 4 | 4 => 3 | _ => 1
def pvY : Nat → Int | 3 => 1 | _ => 5
def pvV : Nat → Int | 1 => 50 | 3 => 9 | _ => 0
def pvW : Nat → Int | 2 => 50 | 3 => 1 | 4 => 50 | _ => 0

/-- What the six operations of proved do, one behind the other: Pv i is how the world is ahead of the i-th, Pb i how it is when the i-th was begun. -/
structure Pvd (Pv Pb : Nat → Wd → Prop) (gw : Nat) (w0 : World) (B : Nat) : Prop where
  pg : ∀ i x, Pv i x → x.gw = gw
  pb : ∀ i x, Pb i x → x.gw = gw
  bg : ∀ i x W (fr : List As), i < 6 → Pv i x → M w0 B W (x.as ++ fr) → Calls Tryd.prog 31 #[.pointer (some ⟨gw, 0, none⟩), .int .i64 0, .agg #[.int .i64 (pvK i), .int .i64 (pvY i), .int .i64 (pvV i)]] W fun e w' => (∃ u, e = .returned u) ∧ ∃ x', Pb i x' ∧ M w0 B w' (x'.as ++ fr)
  al : ∀ i x W (fr : List As), i < 6 → Pb i x → M w0 B W (x.as ++ fr) → Calls Tryd.prog 32 #[.pointer (some ⟨gw, 0, none⟩), .int .i64 0] W fun e w' => (∃ u, e = .returned u) ∧ ∃ x' n d, Pv (i + 1) x' ∧ x'.ds.length = n + 1 ∧ n ≤ 100 ∧ x'.ds[n]? = some d ∧ d.er = 0 ∧ d.va = pvW i ∧ d.fd = decide (0 < pvW i) ∧ M w0 B w' (x'.as ++ fr)

set_option maxRecDepth 100000 in
set_option maxHeartbeats 6400000 in
theorem proved_gen (Pv Pb : Nat → Wd → Prop) (w : World) (m : Pvd Pv Pb w.heap.size w w.heap.size) (h0 : ∀ tg tc ug uc vg vc bg bc, Pv 0 (Wd.first w.heap.size tg tc ug uc vg vc bg bc)) :
    Calls Tryd.prog 35 #[] w fun e w' => e = .returned (.bool true) ∧ Below w.heap.size w w' := by
  have HMC := hideIt m
  have H0 := hideIt h0
  clear m h0
  obtain ⟨gw, hgw⟩ : ∃ g, w.heap.size = g := ⟨_, rfl⟩
  have HGW := hideIt hgw
  rw [hgw] at HMC H0 ⊢
  clear hgw
  go_enter Tryd.func35, Tryd.ntmps35
  go_wp2_with fail
  refine (fresh_wd w).mono ?_
  rintro e w1 ⟨rfl, tg, tc, ug, uc, vg, vc, bg, bc, hM⟩
  rw [HGW.out] at hM ⊢
  have A0 := hideIt hM
  clear hM
  have A1 := hideIt (A0.out.alloc #[.int .i64 1, .int .i64 5, .int .i64 0, .int .i64 2, .int .i64 5, .int .i64 50, .int .i64 1, .int .i64 5, .int .i64 0, .int .i64 4, .int .i64 1, .int .i64 9, .int .i64 3, .int .i64 5, .int .i64 0, .int .i64 1, .int .i64 5, .int .i64 0] 37)
  have A2 := hideIt (A1.out.alloc #[.int .i64 0, .int .i64 0, .int .i64 50, .int .i64 1, .int .i64 50, .int .i64 0] 3)
  clear A0 A1
  go_wp2
  rw [alloc_size] at A2
  obtain ⟨ga, hga⟩ : ∃ g, w1.heap.size = g := ⟨_, rfl⟩
  rw [hga] at A2 ⊢
  obtain ⟨FB, hFB⟩ : ∃ F, F = [As.blk (ga + 1) #[.int .i64 0, .int .i64 0, .int .i64 50, .int .i64 1, .int .i64 50, .int .i64 0] 3, As.blk ga #[.int .i64 1, .int .i64 5, .int .i64 0, .int .i64 2, .int .i64 5, .int .i64 50, .int .i64 1, .int .i64 5, .int .i64 0, .int .i64 4, .int .i64 1, .int .i64 9, .int .i64 3, .int .i64 5, .int .i64 0, .int .i64 1, .int .i64 5, .int .i64 0] 37] := ⟨_, rfl⟩
  have HOC : Hid (∀ (x : Wd) W, M w gw W (x.as ++ FB) → ∀ i, i < 6 → (W.cell? ⟨ga, i * 3, none⟩ = some (.int .i64 (pvK i)) ∧ W.cell? ⟨ga, i * 3 + 1, none⟩ = some (.int .i64 (pvY i)) ∧ W.cell? ⟨ga, i * 3 + 2, none⟩ = some (.int .i64 (pvV i)) ∧ W.cell? ⟨ga + 1, i, none⟩ = some (.int .i64 (pvW i)))) := by
    intro x W hM i hi
    have h1 : As.blk ga #[.int .i64 1, .int .i64 5, .int .i64 0, .int .i64 2, .int .i64 5, .int .i64 50, .int .i64 1, .int .i64 5, .int .i64 0, .int .i64 4, .int .i64 1, .int .i64 9, .int .i64 3, .int .i64 5, .int .i64 0, .int .i64 1, .int .i64 5, .int .i64 0] 37 ∈ x.as ++ FB := by rw [hFB]; simp
    have h2 : As.blk (ga + 1) #[.int .i64 0, .int .i64 0, .int .i64 50, .int .i64 1, .int .i64 50, .int .i64 0] 3 ∈ x.as ++ FB := by rw [hFB]; simp
    have hi6 : i = 0 ∨ i = 1 ∨ i = 2 ∨ i = 3 ∨ i = 4 ∨ i = 5 := by omega
    rcases hi6 with rfl | rfl | rfl | rfl | rfl | rfl <;> exact ⟨hM.cellIn h1 _ _ rfl, hM.cellIn h1 _ _ rfl, hM.cellIn h1 _ _ rfl, hM.cellIn h2 _ _ rfl⟩
  have A3 := hideIt (M.perm (l' := (Wd.first gw tg tc ug uc vg vc bg bc).as ++ FB) A2.out (by rw [hFB, List.append_nil]; exact List.perm_append_comm))
  clear A2 hFB hga
  go_loopw [4] (fun y wr => ∃ (i : Nat) (x : Wd), y = .int .i64 i ∧ i ≤ 6 ∧ Hid (Pv i x) ∧ Hid (M w gw wr (x.as ++ FB))) (fun i _ => 6 - (intOf i).toNat)
  case atStart => exact ⟨0, _, rfl, by omega, H0.out tg tc ug uc vg vc bg bc, A3.out⟩
  case round =>
    clear A3
    obtain ⟨i, x, rfl, hi, hP, hM⟩ := hrel
    have hg : Hid (x.gw = gw) := HMC.out.pg i x hP.out
    by_cases hlt : i < 6
    · have g14 := hM.out.cell (i := 0) rfl 14 (.bool false) rfl
      rw [hg.out] at g14
      obtain ⟨o0, o1, o2, -⟩ := HOC.out x wr hM.out i hlt
      have hi1 : (i : Int) < 6 := by omega
      have hi0 : (0 : Int) ≤ (i : Int) := by omega
      have CB := hideIt (HMC.out.bg i x wr FB hlt hP.out hM.out)
      clear hM hP hg
      go_wp2_with fail
      refine CB.out.mono ?_
      rintro e w2 ⟨⟨u, rfl⟩, x2, hP2, hM2⟩
      have HM2 := hideIt hM2
      have hg2 : Hid (x2.gw = gw) := HMC.out.pb i x2 hP2
      have g14 := hM2.cell (i := 0) rfl 14 (.bool false) rfl
      rw [hg2.out] at g14
      have CA := hideIt (HMC.out.al i x2 w2 FB hlt hP2 hM2)
      clear hM2 hP2 CB o0 o1 o2 hg2
      go_wp2_with fail
      refine CA.out.mono ?_
      rintro e w3 ⟨⟨u, rfl⟩, x3, n, d, hP3, hn, hn1, hd, her, hva, hfd, hM3⟩
      have HM3 := hideIt hM3
      have HP3 := hideIt hP3
      have hg3 : Hid (x3.gw = gw) := HMC.out.pg _ x3 hP3
      clear CA HM2
      have g14 := hM3.cell (i := 0) rfl 14 (.bool false) rfl
      obtain ⟨dg, dc, hdv⟩ := As.form (hM3.get (i := 2) rfl) (by omega)
      have g3 := hM3.cell (i := 0) rfl 3 x3.dv rfl
      rw [hdv, hn] at g3
      have hrow := hM3.get (i := 2) rfl
      have hdp : (x3.ds.map Dd.ptr)[n]? = some (.pointer (some ⟨d.gd, 0, none⟩)) := by rw [List.getElem?_map, hd]; rfl
      rw [hdv] at hrow
      have c0 := World.ownsRow.cellAt hrow.own n (by rw [hn]; omega)
      rw [hdp] at c0
      rw [hg3.out] at g14 g3
      have D := M.deed (pre := []) hM3 hd
      have d8 := D.cell (i := 0) rfl 8 (.int .i64 d.er) rfl
      have d9 := D.cell (i := 0) rfl 9 (.bool d.fd) rfl
      have d10 := D.cell (i := 0) rfl 10 (.int .i64 d.va) rfl
      have d11 := D.cell (i := 0) rfl 11 (.int .i64 d.pt) rfl
      have d12 := D.cell (i := 0) rfl 12 d.kv rfl
      have d13 := D.cell (i := 0) rfl 13 d.vv rfl
      have d14 := D.cell (i := 0) rfl 14 d.cv rfl
      obtain ⟨ak, ck, hkv⟩ := As.form0 (D.get (i := 9) rfl)
      obtain ⟨av, cv, hvv⟩ := As.form0 (D.get (i := 10) rfl)
      obtain ⟨ac, cc, hcv⟩ := As.form0 (D.get (i := 11) rfl)
      obtain ⟨-, -, -, o3⟩ := HOC.out x3 w3 hM3 i hlt
      rw [hkv] at d12
      rw [hvv] at d13
      rw [hcv] at d14
      rw [her] at d8
      rw [hva] at d10
      rw [hfd] at d9
      have hsz : d.gd < w3.heap.size := lt_of_cell d8
      obtain ⟨gd, hgd⟩ : ∃ y, d.gd = y := ⟨_, rfl⟩
      obtain ⟨pt, hpt⟩ : ∃ y, d.pt = y := ⟨_, rfl⟩
      obtain ⟨pw, hpw⟩ : ∃ y, pvW i = y := ⟨_, rfl⟩
      rw [hgd] at c0 d8 d9 d10 d11 d12 d13 d14 hsz
      rw [hpt] at d11
      rw [hpw] at d9 d10 o3
      generalize d.ks.length = nk at d12
      generalize d.vs.length = nv at d13
      generalize d.cs.length = nc at d14
      have hn0 : (0 : Int) ≤ (n : Int) := by omega
      have hgw3 : gw < w3.heap.size := lt_of_cell g3
      have hdg3 : dg < w3.heap.size := lt_of_cell c0
      have hga3 : ga + 1 < w3.heap.size := lt_of_cell o3
      have A5 := hideIt (hM3.alloc #[.int .i64 0, .bool (decide (0 < pw)), .int .i64 pw, .int .i64 pt, .slice ak nk ck, .slice av nv cv, .slice ac nc cc] 66)
      have hpw := hideIt hpw
      clear hva hfd her hM3 hP3 hd D hrow hdp hgd hpt hkv hvv hcv hdv HM3
      go_wp2
      go_region
      have A6 := hideIt A5.out.drew
      obtain ⟨gq, hgq⟩ : ∃ g, w3.heap.size = g := ⟨_, rfl⟩
      rw [hgq] at A6 ⊢
      generalize World.drew _ = w4 at A6 ⊢
      clear A5 hgq hsz hgw3 hdg3 hga3 d8 d9 d10 d11 d12 d13 d14 c0 g3 g14 o3
      have a0 := A6.out.cell (i := 0) rfl 0 (.int .i64 0) rfl
      have a1 := A6.out.cell (i := 0) rfl 1 (.bool (decide (0 < pw))) rfl
      have a2 := A6.out.cell (i := 0) rfl 2 (.int .i64 pw) rfl
      have A7 := hideIt (A6.out.sub (List.sublist_cons_self _ _))
      have g14 := A7.out.cell (i := 0) rfl 14 (.bool false) rfl
      rw [hg3.out] at g14
      obtain ⟨-, -, -, o3⟩ := HOC.out x3 w4 A7.out i hlt
      rw [hpw.out] at o3
      clear A6
      go_wp2
      go_quiet (fail)
      go_wp2
      go_roundw
      case rel => exact ⟨i + 1, x3, by go_num, by omega, HP3.out, A7.out.drewN _⟩
      case measure => simp [intOf]; omega
    · obtain rfl : i = 6 := by omega
      have HB := hideIt hM.out.bl
      clear hM
      go_wp2
      go_ret
      exact ⟨rfl, HB.out⟩
end Go.Proofs.YtjpgldeeopmbgaaDoor.Sap

/- WHAT IS PROVED HERE: saplingkeep's at: the map at a time, when all operations have ended. Conditions: the Point of each operation is one of its accesses. -/
namespace Go.Proofs.YtjpgldeeopmbgaaDoor.Sap
open Go.RowKit

theorem eql_nilD (w : World) (a : Option Addr) (l c : Nat) : (binOp .eql 56 (.slice a l c) (.slice none 0 0)).run Tryd.prog w = .ok (.bool a.isNone) w := by
  simp only [binOp]
  simp [run_equal_slice_nil w 56 119 a l c Tryd.underlying56]

/-- What is kept of what took effect: nothing yet, or all of it in order. -/
def OrdI (x : Wd) (o : List Dn) : Prop := (x.ov = .slice none 0 0 ∧ o = []) ∨ (o.Perm (tkL x.ds) ∧ Srt o)

theorem dn_cells {w : World} {B g n cap : Nat} {L : List Dn} (hr : w.ownsRow B 119 4 (.slice (some ⟨g, 0, none⟩) n cap) n (dnc L)) {j : Nat} {d : Dn} (hj : L[j]? = some d) (hjn : j < n) :
    w.cell? ⟨g, j * 4, none⟩ = some (.int .i64 d.t) ∧ w.cell? ⟨g, j * 4 + 1, none⟩ = some (.int .i64 d.k) ∧ w.cell? ⟨g, j * 4 + 2, none⟩ = some (.int .i64 d.key) ∧ w.cell? ⟨g, j * 4 + 3, none⟩ = some (.int .i64 d.v) := by
  obtain ⟨h1, h2, h3, h4⟩ := dnc_at hj
  refine ⟨?_, ?_, ?_, ?_⟩
  · rw [World.ownsRow.cellAt hr _ (by omega)]; exact h1
  · rw [World.ownsRow.cellAt hr _ (by omega)]; exact h2
  · rw [World.ownsRow.cellAt hr _ (by omega)]; exact h3
  · rw [World.ownsRow.cellAt hr _ (by omega)]; exact h4

set_option maxRecDepth 100000 in
set_option maxHeartbeats 6400000 in
theorem at_any (x : Wd) (o : List Dn) (time : Int) (fr : List As) (w0 w : World) (B : Nat) (hov : ∀ d ∈ x.ds, d.over) (hnd : x.ds.length ≤ 100000000) (hO : OrdI x o) (h : M w0 B w (x.as ++ (.row 119 4 x.ov o.length (dnc o) :: fr))) :
    Calls Tryd.prog 42 #[.pointer (some ⟨x.gw, 0, none⟩), .int .i64 time] w fun e w' => ∃ gt, e = .returned (.pointer (some ⟨gt, 0, none⟩)) ∧ ∃ ov' o', o'.Perm (tkL x.ds) ∧ Srt o' ∧ ∃ kv vv,
      M w0 B w' (.blk gt #[kv, vv] 84 :: .row 3 1 kv (tabO (ahead o' time)).1.length (ints (tabO (ahead o' time)).1) :: .row 3 1 vv (tabO (ahead o' time)).1.length (ints (tabO (ahead o' time)).2) :: (({ x with ov := ov' } : Wd).as ++ (.row 119 4 ov' o'.length (dnc o') :: fr))) := by
  obtain ⟨n, hn⟩ : ∃ n, x.ds.length = n := ⟨_, rfl⟩
  have HN := hideIt hn
  have hg := h.cell (i := 0) rfl 13 x.ov rfl
  have hrow : As.holds w B (.row 119 4 x.ov o.length (dnc o)) := h.holds _ (by simp)
  obtain ⟨oa, oc, hoa⟩ := As.form0 hrow
  rw [hoa] at hg
  have hq := fun u => eql_nilD u oa o.length oc
  have HM := hideIt h
  have HO := hideIt hO
  have HOV := hideIt hov
  have HOA := hideIt hoa
  rw [hn] at hnd
  clear h hO hov hrow hn hoa
  go_enter Tryd.func42, Tryd.ntmps42
  go_upto_if 11 with fail
  go_cut [] (fun wy => ∃ ov' o', Hid (o'.Perm (tkL x.ds)) ∧ Hid (Srt o') ∧ Hid (M w0 B wy (({ x with ov := ov' } : Wd).as ++ (.row 119 4 ov' o'.length (dnc o') :: fr))))
  case first =>
    cases oa with
    | none =>
      have CT := hideIt (took_any x _ w0 w B HOV.out (by rw [HN.out]; exact hnd) HM.out)
      go_wp2_with fail
      refine CT.out.mono ?_
      rintro e w1 ⟨ov, rfl, out, hp, hs, hM1⟩
      obtain ⟨va, vc, rfl⟩ := As.form0 (hM1.get (i := 0) rfl)
      have HP := hideIt hp
      have HS := hideIt hs
      have g13 := hM1.cell (i := 1) rfl 13 x.ov rfl
      have f13 := hM1.free (i := 1) rfl 13
      obtain ⟨x', hx'⟩ : ∃ y : Wd, y = { x with ov := .slice va out.length vc } := ⟨_, rfl⟩
      have S1 : M w0 B (w1.setCell ⟨x.gw, 13, none⟩ (.slice va out.length vc)) (.row 119 4 (.slice va out.length vc) out.length (dnc out) :: (x'.as ++ (.row 119 4 x.ov o.length (dnc o) :: fr))) := by
        subst hx'
        exact hM1.store (i := 1) (j := 13) rfl (.slice va out.length vc) rfl
      have S2 := S1.sub (List.Sublist.cons_cons _ (List.Sublist.append_left (List.sublist_cons_self _ _) _))
      have S3 := hideIt (S2.perm (l' := x'.as ++ (.row 119 4 (.slice va out.length vc) out.length (dnc out) :: fr)) List.perm_middle)
      rw [hx'] at S3
      clear CT hp hs hM1 S1 S2 hx'
      go_wp2
      go_meet
      case rel => exact ⟨_, out, HP.out, HS.out, S3.out⟩
    | some a =>
      have HX : Hid (o.Perm (tkL x.ds) ∧ Srt o) := by
        rcases HO.out with ⟨h1, -⟩ | h1
        · rw [HOA.out] at h1; cases h1
        · exact h1
      go_wp2
      go_meet
      case rel => exact ⟨x.ov, o, HX.out.1, HX.out.2, HM.out⟩
  case rest =>
    obtain ⟨ov', o', hp, hs, hM⟩ := hcut
    clear HM HO HOA hq hg
    obtain ⟨x', hx'⟩ : ∃ y : Wd, y = { x with ov := ov' } := ⟨_, rfl⟩
    have HX := hideIt hx'
    rw [← hx'] at hM
    have hgw : x'.gw = x.gw := by rw [hx']
    have hov' : x'.ov = ov' := by rw [hx']
    obtain ⟨m, hm⟩ : ∃ m, o'.length = m := ⟨_, rfl⟩
    have HMM := hideIt hm
    have hmn : m ≤ 100000000 := by
      have h1 := hp.out.length_eq
      have h2 : (tkL x.ds).length ≤ x.ds.length := List.length_filterMap_le _ _
      have h3 := HN.out
      omega
    rw [hm] at hM
    obtain ⟨va, vc, rfl⟩ := As.form0 (hM.out.holds (.row 119 4 ov' m (dnc o')) (by simp))
    have A0 := hideIt (M.nil2 (e := 3) (z := 1) (l1 := [_]) (M.nil2 (e := 3) (z := 1) (l1 := [_]) (hM.out.alloc #[.slice none 0 0, .slice none 0 0] 84)))
    clear hM hx' hm
    go_wp2
    obtain ⟨gt, hgt⟩ : ∃ g, wc.heap.size = g := ⟨_, rfl⟩
    rw [hgt] at A0 ⊢
    clear hgt
    go_loopw [6] (fun vi wr => ∃ (i l : Nat) (kv vv : Value), vi = .int .i64 i ∧ i ≤ m ∧ Hid ((tabO (o'.take i)).1.length = l ∧ (tabO (o'.take i)).2.length = l) ∧ l ≤ i ∧ Hid (∀ j d, j < i → o'[j]? = some d → d.t < time) ∧ Hid (M w0 B wr (.blk gt #[kv, vv] 84 :: .row 3 1 kv l (ints (tabO (o'.take i)).1) :: .row 3 1 vv l (ints (tabO (o'.take i)).2) :: (x'.as ++ (.row 119 4 (.slice va m vc) m (dnc o') :: fr))))) (fun vi _ => m - (intOf vi).toNat)
    case atStart => exact ⟨0, 0, _, _, rfl, by omega, ⟨rfl, rfl⟩, by omega, fun j d hj => by omega, A0.out⟩
    case round =>
      clear A0
      obtain ⟨i, l, kv, vv, rfl, hi, hl, hli, hT, hM⟩ := hrel
      have g13 := hM.out.cell (i := 3) rfl 13 x'.ov rfl
      rw [hov', hgw] at g13
      have hi0 : (0 : Int) ≤ (i : Int) := by omega
      have hrow : As.holds wr B (.row 119 4 (.slice va m vc) m (dnc o')) := hM.out.holds _ (by simp)
      by_cases hlt : i < m
      · have him : (i : Int) < (m : Int) := by omega
        obtain ⟨d, hd⟩ : ∃ d, o'[i]? = some d := ⟨_, List.getElem?_eq_getElem (by rw [HMM.out]; exact hlt)⟩
        obtain ⟨gg, cc, hda⟩ := As.form hrow (by omega)
        cases hda
        obtain ⟨y0, y1, y2, y3⟩ := dn_cells hrow.own hd hlt
        have HD := hideIt hd
        have hlg : gg < wr.heap.size := lt_of_cell y0
        have TS := hideIt (tabO_succ o' i d hd)
        clear hrow hd
        by_cases ht : d.t < time
        · have CD := hideIt (do_any gt l kv vv (tabO (o'.take i)).1 (tabO (o'.take i)).2 d.k d.key d.v _ w0 wr B (by omega) hl.out.1 hl.out.2 hM.out)
          have HL := hideIt (tdo_len d.k d.key d.v (tabO (o'.take i)).1 (tabO (o'.take i)).2 (by rw [hl.out.1, hl.out.2]))
          rw [← TS.out] at CD HL
          have hl2 : (tabO (o'.take (i + 1))).1.length ≤ i + 1 := (tabO_len o' (i + 1)).2
          clear hM
          go_wp2_with fail
          refine CD.out.mono ?_
          rintro e w1 ⟨⟨u, rfl⟩, kv', vv', hM1⟩
          have H1 := hideIt hM1
          clear CD hM1 g13 y0 y1 y2 y3
          have HT2 : Hid (∀ j d, j < i + 1 → o'[j]? = some d → d.t < time) := by
            intro j d' hj hd'
            rcases Nat.lt_or_ge j i with h | h
            · exact hT.out j d' h hd'
            · obtain rfl : j = i := by omega
              rw [HD.out] at hd'; cases hd'; exact ht
          go_wp2
          go_roundw
          case rel => exact ⟨i + 1, _, kv', vv', by go_num, by omega, ⟨rfl, HL.out.1.symm⟩, hl2, HT2.out, H1.out⟩
          case measure => simp [intOf]; omega
        · have HE : Hid (ahead o' time = o'.take i) := ahead_eq o' time i hT.out (fun d' hd' => by rw [HD.out] at hd'; cases hd'; exact ht)
          have hM2 : Hid (M w0 B wr (.blk gt #[kv, vv] 84 :: .row 3 1 kv (tabO (ahead o' time)).1.length (ints (tabO (ahead o' time)).1) :: .row 3 1 vv (tabO (ahead o' time)).1.length (ints (tabO (ahead o' time)).2) :: (({ x with ov := .slice (some ⟨gg, 0, none⟩) m vc } : Wd).as ++ (.row 119 4 (.slice (some ⟨gg, 0, none⟩) m vc) o'.length (dnc o') :: fr)))) := by
            unfold Hid; rw [HE.out, hl.out.1, HMM.out, ← HX.out]; exact hM.out
          clear hM
          go_wp2
          go_ret
          exact ⟨_, rfl, _, o', hp.out, hs.out, kv, vv, hM2.out⟩
      · obtain rfl : i = m := by omega
        have HE : Hid (ahead o' time = o'.take i) := ahead_eq o' time i hT.out (fun d' hd' => by have := (List.getElem?_eq_some_iff.1 hd').1; rw [HMM.out] at this; omega)
        have hM2 : Hid (M w0 B wr (.blk gt #[kv, vv] 84 :: .row 3 1 kv (tabO (ahead o' time)).1.length (ints (tabO (ahead o' time)).1) :: .row 3 1 vv (tabO (ahead o' time)).1.length (ints (tabO (ahead o' time)).2) :: (({ x with ov := .slice va i vc } : Wd).as ++ (.row 119 4 (.slice va i vc) o'.length (dnc o') :: fr)))) := by
          unfold Hid; rw [HE.out, hl.out.1, HMM.out, ← HX.out]; exact hM.out
        clear hM hrow
        go_wp2
        go_ret
        exact ⟨_, rfl, _, o', hp.out, hs.out, kv, vv, hM2.out⟩
end Go.Proofs.YtjpgldeeopmbgaaDoor.Sap

/- WHAT IS PROVED HERE: saplingkeep's pieces answers true of a Scan that has ended as it should, each piece held against the map of its time. Conditions: all operations have ended; what is asked of each piece is named at the theorem. -/
namespace Go.Proofs.YtjpgldeeopmbgaaDoor.Sap
open Go.RowKit

theorem M.cellMem {w0 w : World} {B b : Nat} {l : List As} {c : Array Value} {t : TypeId} (h : M w0 B w l) (hm : As.blk b c t ∈ l) (j : Nat) (v : Value) (hv : c[j]? = some v) : w.cell? ⟨b, j, none⟩ = some v := by
  rw [Go.Joins.cell_of_block (h.holds _ hm).2]; exact hv

/-- The world with all its operations, what took effect (if it is known yet), and an answer that is looked at. -/
def PS (x : Wd) (ga : Nat) (ans : Array Value) (fr : List As) (w0 : World) (B : Nat) (W : World) : Prop :=
  ∃ ov' o', OrdI { x with ov := ov' } o' ∧ M w0 B W (({ x with ov := ov' } : Wd).as ++ (.row 119 4 ov' o'.length (dnc o') :: .blk ga ans 66 :: fr))
theorem PS.below {x : Wd} {ga : Nat} {ans : Array Value} {fr : List As} {w0 : World} {B : Nat} {W W' : World} (h : PS x ga ans fr w0 B W) (hb : Below W.heap.size W W') : PS x ga ans fr w0 B W' := by
  obtain ⟨ov', o', h1, h2⟩ := h
  exact ⟨ov', o', h1, h2.below hb⟩
/-- A map in memory. -/
def TabR (gt : Nat) (K V : List Int) (W : World) : Prop := ∃ tk tv, W.cell? ⟨gt, 0, none⟩ = some tk ∧ W.cell? ⟨gt, 1, none⟩ = some tv ∧ Rd W tk K ∧ Rd W tv V
theorem TabR.below {gt : Nat} {K V : List Int} {W W' : World} (h : TabR gt K V W) (hb : Below W.heap.size W W') : TabR gt K V W' := by
  obtain ⟨tk, tv, h1, h2, h3, h4⟩ := h
  exact ⟨tk, tv, cell_below hb _ _ h1, cell_below hb _ _ h2, h3.below hb, h4.below hb⟩

theorem cutc_at {l : List (Int × Int)} : ∀ {i : Nat} {c : Int × Int}, l[i]? = some c → (cutc l)[i * 2]? = some (.int .i64 c.1) ∧ (cutc l)[i * 2 + 1]? = some (.int .i64 c.2) := by
  induction l with
  | nil => intro i d h; simp at h
  | cons a l ih =>
    intro i d h
    have e : cutc (a :: l) = [.int .i64 a.1, .int .i64 a.2] ++ cutc l := rfl
    rw [e]
    cases i with
    | zero => simp at h; subst h; exact ⟨rfl, rfl⟩
    | succ i =>
      obtain ⟨h1, h2⟩ := ih (i := i) (c := d) (by simpa using h)
      rw [show (i + 1) * 2 = 2 + i * 2 by omega]
      refine ⟨?_, ?_⟩
      · rw [List.getElem?_append_right (by simp)]; simpa using h1
      · rw [List.getElem?_append_right (by simp; omega)]; simpa [Nat.add_assoc] using h2

/-- What is read of an operation, in such a world. -/
theorem PS.facts {x : Wd} {ga i : Nat} {ans : Array Value} {fr : List As} {w0 : World} {B : Nat} {W : World} {d : Dd} (h : PS x ga ans fr w0 B W) (hd : x.ds[i]? = some d) :
    (W.cell? ⟨d.gd, 1, none⟩ = some (.int .i64 d.key) ∧ W.cell? ⟨d.gd, 2, none⟩ = some (.int .i64 d.v) ∧ W.cell? ⟨d.gd, 4, none⟩ = some d.tm) ∧ Rd W d.kv d.ks ∧ Rd W d.vv d.vs ∧ Rd W d.tm d.ts ∧ As.holds W B (.row 112 2 d.cv d.cs.length (cutc d.cs)) := by
  obtain ⟨ov', o', -, h2⟩ := h
  have D := M.deed (pre := []) (x := { x with ov := ov' }) h2 hd
  refine ⟨⟨D.cell (i := 0) rfl 1 _ rfl, D.cell (i := 0) rfl 2 _ rfl, D.cell (i := 0) rfl 4 _ rfl⟩, owns_rd (D.get (i := 9) rfl).own, owns_rd (D.get (i := 10) rfl).own, owns_rd (D.get (i := 2) rfl).own, D.get (i := 11) rfl⟩
theorem PS.ans {x : Wd} {ga : Nat} {ans : Array Value} {fr : List As} {w0 : World} {B : Nat} {W : World} (h : PS x ga ans fr w0 B W) (j : Nat) (v : Value) (hv : ans[j]? = some v) : W.cell? ⟨ga, j, none⟩ = some v := by
  obtain ⟨ov', o', -, h2⟩ := h
  exact h2.cellMem (b := ga) (c := ans) (t := 66) (by simp) j v hv

theorem PS.at {x : Wd} {ga : Nat} {ans : Array Value} {fr : List As} {w0 : World} {B : Nat} {W : World} (h : PS x ga ans fr w0 B W) (time : Int) (hov : ∀ d ∈ x.ds, d.over) (hnd : x.ds.length ≤ 100000000) :
    Calls Tryd.prog 42 #[.pointer (some ⟨x.gw, 0, none⟩), .int .i64 time] W fun e w' => ∃ gt, e = .returned (.pointer (some ⟨gt, 0, none⟩)) ∧ ∃ o', o'.Perm (tkL x.ds) ∧ Srt o' ∧ PS x ga ans fr w0 B w' ∧ TabR gt (tabO (ahead o' time)).1 (tabO (ahead o' time)).2 w' ∧ (tabO (ahead o' time)).1.length = (tabO (ahead o' time)).2.length ∧ (tabO (ahead o' time)).1.length ≤ 100000000 := by
  obtain ⟨ov', o', h1, h2⟩ := h
  refine (at_any { x with ov := ov' } o' time _ w0 W B hov hnd h1 h2).mono ?_
  rintro e w' ⟨gt, rfl, ov2, o2, hp, hs, kv, vv, hM⟩
  have hlen : (tabO (ahead o2 time)).1.length = (tabO (ahead o2 time)).2.length ∧ (tabO (ahead o2 time)).1.length ≤ 100000000 := by
    obtain ⟨k, hk⟩ : ∃ k, ahead o2 time = o2.take k := ⟨_, (List.prefix_iff_eq_take.1 (List.takeWhile_prefix _))⟩
    have hkl : o2.take k = o2.take (min k o2.length) := by
      rcases Nat.le_total k o2.length with h | h
      · rw [Nat.min_eq_left h]
      · rw [Nat.min_eq_right h, List.take_of_length_le h, List.take_of_length_le (Nat.le_refl _)]
    rw [hk, hkl]
    have h3 := tabO_len o2 (min k o2.length)
    have h4 := hp.length_eq
    have h5 : (tkL x.ds).length ≤ x.ds.length := List.length_filterMap_le _ _
    exact ⟨h3.1, by have := h3.2; have h6 : min k o2.length ≤ o2.length := Nat.min_le_right _ _; change o2.length = (tkL x.ds).length at h4; omega⟩
  refine ⟨gt, rfl, o2, hp, hs, ⟨ov2, o2, Or.inr ⟨hp, hs⟩, (hM.sub (List.sublist_cons_self _ _)).sub (List.sublist_cons_self _ _) |>.sub (List.sublist_cons_self _ _)⟩, ⟨kv, vv, hM.cell (i := 0) rfl 0 _ rfl, hM.cell (i := 0) rfl 1 _ rfl, owns_rd (hM.get (i := 1) rfl).own, ?_⟩, hlen.1, hlen.2⟩
  have := (hM.get (i := 2) rfl).own
  rw [hlen.1] at this
  exact owns_rd this
end Go.Proofs.YtjpgldeeopmbgaaDoor.Sap
