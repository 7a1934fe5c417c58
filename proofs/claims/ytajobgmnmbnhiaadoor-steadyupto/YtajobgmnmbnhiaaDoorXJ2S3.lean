/- WHAT IS PROVED HERE: saplingkeep's Honest and Linear answer true over any program that keeps an invariant of the world (Good) which lets the answers be a plain map's. Conditions: those of Good; the script has at most a million turns. -/
import Derived.Test.YtajobgmnmbnhiaaDoorXS2B3
import Derived.Test.YtajobgmnmbnhiaaDoorXN3K3
import Derived.Test.YtajobgmnmbnhiaaDoorXP2N5
import Derived.Test.YtajobgmnmbnhiaaDoorXN6N8
namespace Go.Proofs.YtajobgmnmbnhiaaDoor.Sap
open Go.RowKit

/-- A program over which scripts are played, from the beginning: see Mc, Pvd. -/
structure Good (Inv : Nat → Wd → Prop) (rk : Nat → Wd → Nat) : Prop where
  pv : ∀ W, Tab W → ∃ Pv Pb, Pvd Pv Pb W.heap.size W W.heap.size ∧ ∀ tg tc ug uc vg vc bg bc, Pv 0 (Wd.first W.heap.size tg tc ug uc vg vc bg bc)
  mc : ∀ W, Tab W → Mc (Inv W.heap.size) rk W.heap.size W W.heap.size
  ini : ∀ gw tg tc ug uc vg vc bg bc, Inv gw (Wd.first gw tg tc ug uc vg vc bg bc)
  ov : ∀ gw x, Inv gw x → x.ov = .slice none 0 0
  over : ∀ gw x, Inv gw x → (∀ c, c < 64 → x.bs[c]? = some (-1)) → x.now ≤ 90000000 → ∀ d ∈ x.ds, d.over

/-- The world's list of operations, and one of them. -/
theorem M.deedAt {w0 w : World} {B j n : Nat} {x : Wd} {d : Dd} {fr : List As} (h : M w0 B w (x.as ++ fr)) (hd : x.ds[j]? = some d) (hn : x.ds.length = n) : ∃ dg dc, w.cell? ⟨x.gw, 3, none⟩ = some (.slice (some ⟨dg, 0, none⟩) n dc) ∧ w.cell? ⟨dg, j, none⟩ = some (.pointer (some ⟨d.gd, 0, none⟩)) ∧ w.cell? ⟨d.gd, 0, none⟩ = some (.int .i64 d.k) := by
  have hl := (List.getElem?_eq_some_iff.1 hd).1
  obtain ⟨dg, dc, hdv⟩ := As.form (h.get (i := 2) rfl) (show 0 < x.ds.length by omega)
  have g3 := h.cell (i := 0) rfl 3 x.dv rfl
  have hrow := (h.get (i := 2) rfl).own
  have hdp : (x.ds.map Dd.ptr)[j]? = some (.pointer (some ⟨d.gd, 0, none⟩)) := by rw [List.getElem?_map, hd]; rfl
  rw [hdv] at g3 hrow
  have c0 := World.ownsRow.cellAt hrow j (by omega)
  rw [hdp] at c0
  rw [hn] at g3
  have D := M.deed (pre := []) h hd
  exact ⟨dg, dc, g3, c0, D.cell (i := 0) rfl 0 (.int .i64 d.k) rfl⟩

set_option maxRecDepth 100000 in
set_option maxHeartbeats 6400000 in
theorem honest_gen (sv : Value) (ts : List Tn) (Inv : Nat → Wd → Prop) (rk : Nat → Wd → Nat) (w : World) (htab : Tab w) (hT : TRd w sv ts) (hok : ∀ t ∈ ts, t.ok) (hlen : ts.length ≤ 1048576) (G : Good Inv rk) :
    Calls Tryd.prog 8 #[sv] w fun e w' => e = .returned (.bool true) ∧ Below w.heap.size w w' := by
  have HT := hideIt hT
  have HOK := hideIt hok
  have HL := hideIt hlen
  have HG := hideIt G
  obtain ⟨ao, cap, rfl, -⟩ := hT
  obtain ⟨Pv, Pb, hpv, hp0⟩ := G.pv w htab
  have CP := hideIt (proved_gen Pv Pb w hpv hp0)
  clear hok hlen G hpv hp0
  go_enter Tryd.func8, Tryd.ntmps8
  go_wp2_with fail
  refine CP.out.mono ?_
  rintro e w1 ⟨rfl, hb1⟩
  have HB1 := hideIt hb1
  have HMC := hideIt (HG.out.mc w1 (htab.below hb1))
  have CQ := hideIt (play_gen _ ts (Inv w1.heap.size) rk w1 (HT.out.below hb1) HOK.out HL.out HMC.out (HG.out.ini w1.heap.size))
  clear hb1 CP HT
  go_wp2_with fail
  refine CQ.out.mono ?_
  rintro e w2 ⟨rfl, x, hI, hn, -, hM⟩
  have CS := hideIt (HMC.out.settle x w2 [] hI (by have := HL.out; omega) hM)
  clear CQ hI hn hM
  go_wp2_with fail
  refine CS.out.mono ?_
  rintro e w3 ⟨⟨u, rfl⟩, x3, hI3, -, -, -, hM3⟩
  have hg : Hid (x3.gw = w1.heap.size) := HMC.out.pg x3 hI3
  have g8 := hM3.cell (i := 0) rfl 8 (.bool false) rfl
  have g14 := hM3.cell (i := 0) rfl 14 (.bool false) rfl
  rw [hg.out] at g8 g14
  have HB3 := hideIt (step HB1.out hM3.bl)
  clear CS hI3 hM3
  go_wp2
  go_ret
  exact ⟨rfl, HB3.out⟩

end Go.Proofs.YtajobgmnmbnhiaaDoor.Sap

/- WHAT IS PROVED HERE: saplingkeep's alike: two answers with the same numbers and lists are alike. Conditions: named at each theorem. -/
namespace Go.Proofs.YtajobgmnmbnhiaaDoor.Sap
open Go.RowKit

/-- A list of cuts, as it lies in memory. -/
def CRd (w : World) (v : Value) (cs : List (Int × Int)) : Prop :=
  ∃ ao cap, v = .slice ao cs.length cap ∧ (0 < cs.length → ∃ b, ao = some ⟨b, 0, none⟩ ∧ ∀ (j : Nat) (c : Int × Int), cs[j]? = some c → w.cell? ⟨b, j * 2, none⟩ = some (.int .i64 c.1) ∧ w.cell? ⟨b, j * 2 + 1, none⟩ = some (.int .i64 c.2))
theorem CRd.below {w w' : World} {v : Value} {cs : List (Int × Int)} (h : CRd w v cs) (hb : Below w.heap.size w w') : CRd w' v cs := by
  obtain ⟨ao, cap, rfl, h⟩ := h
  refine ⟨ao, cap, rfl, fun hp => ?_⟩
  obtain ⟨b, rfl, k⟩ := h hp
  refine ⟨b, rfl, fun j c hj => ?_⟩
  obtain ⟨h0, h1⟩ := k j c hj
  exact ⟨cell_below hb _ _ h0, cell_below hb _ _ h1⟩

set_option maxRecDepth 100000 in
set_option maxHeartbeats 6400000 in
theorem alike_yes (er va pt : Int) (fd : Bool) (kv vv cv kv' vv' cv' : Value) (ks vs : List Int) (cs : List (Int × Int)) (w : World) (rk : Rd w kv ks) (rk' : Rd w kv' ks) (rv : Rd w vv vs) (rv' : Rd w vv' vs) (rc : CRd w cv cs) (rc' : CRd w cv' cs) (hk : ks.length ≤ 1000000) (hv : vs.length ≤ 1000000) (hc : cs.length ≤ 1000000) :
    Calls Tryd.prog 62 #[.agg #[.int .i64 er, .bool fd, .int .i64 va, .int .i64 pt, kv, vv, cv], .agg #[.int .i64 er, .bool fd, .int .i64 va, .int .i64 pt, kv', vv', cv']] w fun e w' => e = .returned (.bool true) ∧ Below w.heap.size w w' := by
  have HRK := hideIt rk
  have HRK' := hideIt rk'
  have HRV := hideIt rv
  have HRV' := hideIt rv'
  have HRC := hideIt rc
  have HRC' := hideIt rc'
  obtain ⟨ak, ck, rfl⟩ := rk.len
  obtain ⟨ak', ck', rfl⟩ := rk'.len
  obtain ⟨av, cv0, rfl⟩ := rv.len
  obtain ⟨av', cv0', rfl⟩ := rv'.len
  obtain ⟨ac, cc, rfl, -⟩ := rc
  obtain ⟨ac', cc', rfl, -⟩ := rc'
  have A0 := hideIt (((M.start w).alloc #[.int .i64 er, .bool fd, .int .i64 va, .int .i64 pt, .slice ak ks.length ck, .slice av vs.length cv0, .slice ac cs.length cc] 76).alloc #[.int .i64 er, .bool fd, .int .i64 va, .int .i64 pt, .slice ak' ks.length ck', .slice av' vs.length cv0', .slice ac' cs.length cc'] 76)
  rw [alloc_size] at A0
  have hb1 : (er != er) = false := by simp
  have hb2 : (va != va) = false := by simp
  have hb3 : (pt != pt) = false := by simp
  have hb4 : (fd != fd) = false := by simp
  obtain ⟨nk, hnk⟩ : ∃ n, ks.length = n := ⟨_, rfl⟩
  obtain ⟨nv, hnv⟩ : ∃ n, vs.length = n := ⟨_, rfl⟩
  obtain ⟨nc, hnc⟩ : ∃ n, cs.length = n := ⟨_, rfl⟩
  have HNK := hideIt hnk
  have HNV := hideIt hnv
  have HNC := hideIt hnc
  rw [hnk] at A0 hk HRK HRK' ⊢
  rw [hnv] at A0 hv HRV HRV' ⊢
  rw [hnc] at A0 hc HRC HRC' ⊢
  have hb5 : ((nk : Int) != (nk : Int)) = false := by simp
  have hb6 : ((nv : Int) != (nv : Int)) = false := by simp
  have hb7 : ((nc : Int) != (nc : Int)) = false := by simp
  clear rk rk' rv rv' hnk hnv hnc
  obtain ⟨gb, hgb⟩ : ∃ g, w.heap.size + 1 = g := ⟨_, rfl⟩
  obtain ⟨ga, hga⟩ : ∃ g, w.heap.size = g := ⟨_, rfl⟩
  have HGA := hideIt hga
  have HGB := hideIt hgb
  rw [hgb, hga] at A0
  clear hga hgb
  go_enter Tryd.func62, Tryd.ntmps62
  go_wp2
  rw [HGB.out, HGA.out]
  go_loopw [5] (fun y wr => ∃ i : Nat, y = .int .i64 i ∧ i ≤ nk ∧ Hid (M w ga wr [.blk gb #[.int .i64 er, .bool fd, .int .i64 va, .int .i64 pt, .slice ak' nk ck', .slice av' nv cv0', .slice ac' nc cc'] 76, .blk ga #[.int .i64 er, .bool fd, .int .i64 va, .int .i64 pt, .slice ak nk ck, .slice av nv cv0, .slice ac nc cc] 76])) (fun y _ => nk - (intOf y).toNat)
  case atStart => exact ⟨0, rfl, by omega, A0.out⟩
  case round =>
    clear A0
    obtain ⟨i, rfl, hi, hM⟩ := hrel
    have hi0 : (0 : Int) ≤ (i : Int) := by omega
    have a4 := hM.out.cell (i := 1) rfl 4 (.slice ak nk ck) rfl
    have b4 := hM.out.cell (i := 0) rfl 4 (.slice ak' nk ck') rfl
    have hbl : Below w.heap.size w wr := by have := hM.out.bl; rw [← HGA.out] at this; exact this
    by_cases hlt : i < nk
    · have hi1 : (i : Int) < (nk : Int) := by omega
      obtain ⟨b1, o1, e1, -, x1⟩ := HRK.out.elem i hlt
      subst e1
      obtain ⟨b2, o2, e2, -, x2⟩ := HRK'.out.elem i hlt
      subst e2
      have y1 := x1 _ hbl
      have y2 := x2 _ hbl
      obtain ⟨k, hk⟩ : ∃ y, ks[i]?.getD 0 = y := ⟨_, rfl⟩
      rw [hk] at y1 y2
      have hkk : (k != k) = false := by simp
      clear x1 x2 hk hbl
      have HM2 := hideIt hM.out
      clear hM
      go_wp2
      go_quiet (fail)
      have HM3 := hideIt (HM2.out.drewN nq)
      go_wp2
      go_roundw
      case rel => exact ⟨i + 1, by go_num, by omega, HM3.out⟩
      case measure => simp [intOf]; omega
    · have hin : ¬ ((i : Int) < (nk : Int)) := by omega
      have HM2 := hideIt hM.out
      clear hM hbl
      go_wp2
      go_loopw [6] (fun y wr => ∃ i : Nat, y = .int .i64 i ∧ i ≤ nv ∧ Hid (M w ga wr [.blk gb #[.int .i64 er, .bool fd, .int .i64 va, .int .i64 pt, .slice ak' nk ck', .slice av' nv cv0', .slice ac' nc cc'] 76, .blk ga #[.int .i64 er, .bool fd, .int .i64 va, .int .i64 pt, .slice ak nk ck, .slice av nv cv0, .slice ac nc cc] 76])) (fun y _ => nv - (intOf y).toNat)
      case atStart => exact ⟨0, rfl, by omega, HM2.out⟩
      case round =>
        clear HM2
        obtain ⟨i, rfl, hi, hM⟩ := hrel
        have hi0 : (0 : Int) ≤ (i : Int) := by omega
        have a4 := hM.out.cell (i := 1) rfl 5 (.slice av nv cv0) rfl
        have b4 := hM.out.cell (i := 0) rfl 5 (.slice av' nv cv0') rfl
        have hbl : Below w.heap.size w wr := by have := hM.out.bl; rw [← HGA.out] at this; exact this
        by_cases hlt : i < nv
        · have hi1 : (i : Int) < (nv : Int) := by omega
          obtain ⟨b1, o1, e1, -, x1⟩ := HRV.out.elem i hlt
          subst e1
          obtain ⟨b2, o2, e2, -, x2⟩ := HRV'.out.elem i hlt
          subst e2
          have y1 := x1 _ hbl
          have y2 := x2 _ hbl
          obtain ⟨k, hk⟩ : ∃ y, vs[i]?.getD 0 = y := ⟨_, rfl⟩
          rw [hk] at y1 y2
          have hkk : (k != k) = false := by simp
          clear x1 x2 hk hbl
          have HM2 := hideIt hM.out
          clear hM
          go_wp2
          go_quiet (fail)
          have HM3 := hideIt (HM2.out.drewN nq)
          go_wp2
          go_roundw
          case rel => exact ⟨i + 1, by go_num, by omega, HM3.out⟩
          case measure => simp [intOf]; omega
        · have hin : ¬ ((i : Int) < (nv : Int)) := by omega
          have HM2 := hideIt hM.out
          clear hM hbl
          go_wp2
          go_loopw [7] (fun y wr => ∃ i : Nat, y = .int .i64 i ∧ i ≤ nc ∧ Hid (M w ga wr [.blk gb #[.int .i64 er, .bool fd, .int .i64 va, .int .i64 pt, .slice ak' nk ck', .slice av' nv cv0', .slice ac' nc cc'] 76, .blk ga #[.int .i64 er, .bool fd, .int .i64 va, .int .i64 pt, .slice ak nk ck, .slice av nv cv0, .slice ac nc cc] 76])) (fun y _ => nc - (intOf y).toNat)
          case atStart => exact ⟨0, rfl, by omega, HM2.out⟩
          case round =>
            clear HM2
            obtain ⟨i, rfl, hi, hM⟩ := hrel
            have hi0 : (0 : Int) ≤ (i : Int) := by omega
            have a4 := hM.out.cell (i := 1) rfl 6 (.slice ac nc cc) rfl
            have b4 := hM.out.cell (i := 0) rfl 6 (.slice ac' nc cc') rfl
            have hbl : Below w.heap.size w wr := by have := hM.out.bl; rw [← HGA.out] at this; exact this
            by_cases hlt : i < nc
            · have hi1 : (i : Int) < (nc : Int) := by omega
              obtain ⟨c, hc2⟩ : ∃ c, cs[i]? = some c := ⟨_, List.getElem?_eq_getElem (by rw [HNC.out]; exact hlt)⟩
              obtain ⟨ao1, cap1, e1, k1⟩ := HRC.out
              obtain ⟨b1, e1', k1'⟩ := k1 (by rw [HNC.out]; omega)
              rw [HNC.out] at e1
              cases e1
              subst e1'
              obtain ⟨ao2, cap2, e2, k2⟩ := HRC'.out
              obtain ⟨b2, e2', k2'⟩ := k2 (by rw [HNC.out]; omega)
              rw [HNC.out] at e2
              cases e2
              subst e2'
              obtain ⟨u1, u2⟩ := k1' i c hc2
              obtain ⟨v1, v2⟩ := k2' i c hc2
              have y1 := cell_below hbl _ _ u1
              have y2 := cell_below hbl _ _ u2
              have y3 := cell_below hbl _ _ v1
              have y4 := cell_below hbl _ _ v2
              obtain ⟨c1, c2⟩ := c
              dsimp only at y1 y2 y3 y4
              have hk1 : (c1 != c1) = false := by simp
              have hk2 : (c2 != c2) = false := by simp
              have hk3 : (c1 == c1) = true := by simp
              have hk4 : (c2 == c2) = true := by simp
              clear k1 k1' k2 k2' u1 u2 v1 v2 hc2 hbl
              have HM2 := hideIt hM.out
              clear hM
              go_wp2
              go_quiet (fail)
              have HM3 := hideIt (HM2.out.drewN nq)
              go_wp2
              go_roundw
              case rel => exact ⟨i + 1, by go_num, by omega, HM3.out⟩
              case measure => simp [intOf]; omega
            · have hin : ¬ ((i : Int) < (nc : Int)) := by omega
              have HM2 := hideIt hM.out
              have HB := hideIt hbl
              clear hM hbl
              go_wp2
              go_ret
              exact ⟨rfl, HB.out⟩
end Go.Proofs.YtajobgmnmbnhiaaDoor.Sap

/- WHAT IS PROVED HERE: saplingkeep.bounds tells where each node of a row begins. Conditions: each node but the first has a key; at most 200 nodes. -/
namespace Go.Proofs.YtajobgmnmbnhiaaDoor.Sap
open Go.RowKit

/-- The cells of one node among many. -/
theorem ncells_at (ns : List Nv) (i c : Nat) (hc : c < 5) : (ncells ns)[i * 5 + c]? = (ns[i]?).bind fun x => x.cells[c]? := by
  induction ns generalizing i with
  | nil => simp [ncells]
  | cons x r ih =>
    have e : ncells (x :: r) = x.cells ++ ncells r := by simp [ncells]
    have hx : x.cells.length = 5 := rfl
    rw [e]
    cases i with
    | zero => rw [List.getElem?_append_left (by omega)]; simp
    | succ i =>
      rw [List.getElem?_append_right (by omega), hx, show (i + 1) * 5 + c - 5 = i * 5 + c by omega, ih i]
      simp
theorem ncells_len (ns : List Nv) : (ncells ns).length = ns.length * 5 := by
  induction ns with
  | nil => rfl
  | cons x r ih =>
    have e : ncells (x :: r) = x.cells ++ ncells r := by simp [ncells]
    rw [e, List.length_append, ih, show x.cells.length = 5 from rfl, List.length_cons]; omega
/-- A row of nodes that is there, with all their lists. -/
structure NS (w : World) (B : Nat) (v : Value) (ns : List Nv) : Prop where
  row : As.holds w B (.row 24 5 v ns.length (ncells ns))
  rows : ∀ r ∈ nrows ns, r.holds w B
theorem M.ns {w0 w : World} {B : Nat} {l : List As} {v : Value} {ns : List Nv} (h : M w0 B w l) (h1 : .row 24 5 v ns.length (ncells ns) ∈ l) (h2 : ∀ r ∈ nrows ns, r ∈ l) : NS w B v ns := ⟨h.holds _ h1, fun r hr => h.holds r (h2 r hr)⟩
theorem NS.below {w w' : World} {B : Nat} {v : Value} {ns : List Nv} (h : NS w B v ns) (hb : Below w.heap.size w w') : NS w' B v ns :=
  ⟨h.row.kept fun k hk => hb.block k (h.row.lt hk).2, fun r hr => (h.rows r hr).kept fun k hk => hb.block k ((h.rows r hr).lt hk).2⟩
theorem NS.form {w : World} {B : Nat} {v : Value} {ns : List Nv} (h : NS w B v ns) (hn : 0 < ns.length) : ∃ g cap, v = .slice (some ⟨g, 0, none⟩) ns.length cap := As.form h.row hn
theorem NS.at {w : World} {B g cap : Nat} {ns : List Nv} (h : NS w B (.slice (some ⟨g, 0, none⟩) ns.length cap) ns) (i : Nat) (x : Nv) (hx : ns[i]? = some x) :
    (w.cell? ⟨g, i * 5, none⟩ = some (.int .i64 x.n.lv) ∧ w.cell? ⟨g, i * 5 + 1, none⟩ = some (.int .i64 x.n.lk) ∧ w.cell? ⟨g, i * 5 + 2, none⟩ = some (.int .i64 x.n.hi) ∧ w.cell? ⟨g, i * 5 + 3, none⟩ = some x.kv ∧ w.cell? ⟨g, i * 5 + 4, none⟩ = some x.vv) ∧ (∀ j, w.frozen? ⟨g, j, none⟩ = false) ∧ Rd w x.kv x.n.ks ∧ Rd w x.vv x.n.vs := by
  have hil : i < ns.length := (List.getElem?_eq_some_iff.1 hx).1
  have key : ∀ c, c < 5 → w.cell? ⟨g, i * 5 + c, none⟩ = x.cells[c]? := by
    intro c hc
    rw [World.ownsRow.cellAt h.row _ (by omega), ncells_at _ _ _ hc, hx]; rfl
  have hmem : x ∈ ns := List.mem_of_getElem? hx
  have hr : ∀ r ∈ x.rows, r.holds w B := fun r hr => h.rows r (List.mem_flatMap.2 ⟨x, hmem, hr⟩)
  refine ⟨⟨key 0 (by omega), key 1 (by omega), key 2 (by omega), key 3 (by omega), key 4 (by omega)⟩, fun j => World.ownsRow.frozenAt h.row j, ?_, ?_⟩
  · have h1 : As.holds w B (.row 3 1 x.kv x.n.ks.length (ints x.n.ks)) := hr _ (by simp [Nv.rows])
    exact owns_rd h1
  · have h1 : As.holds w B (.row 3 1 x.vv x.n.vs.length (ints x.n.vs)) := hr _ (by simp [Nv.rows])
    exact owns_rd h1

/-- Where each node begins: the first at 0, each other at its first key. -/
def bnd (ns : List Nv) (i : Nat) : Int := if i = 0 then 0 else ((ns[i]?).map fun x => x.n.ks[0]?.getD 0).getD 0
def bnds (ns : List Nv) : List Int := (List.range ns.length).map (bnd ns)
theorem bnds_len (ns : List Nv) : (bnds ns).length = ns.length := by simp [bnds]
theorem bnds_at (ns : List Nv) (i : Nat) (h : i < ns.length) : (bnds ns)[i]?.getD 0 = bnd ns i := by simp [bnds, h]
theorem bnds_snoc (ns : List Nv) (k : Nat) (h : k < ns.length) : (bnds ns).take (k + 1) = (bnds ns).take k ++ [bnd ns k] := by
  rw [List.take_add_one]; simp [bnds, h]
theorem NS.form' {w : World} {B n cap : Nat} {ao : Option Addr} {ns : List Nv} (h : NS w B (.slice ao n cap) ns) (hn : 0 < n) : ∃ g cap', (Value.slice ao n cap) = .slice (some ⟨g, 0, none⟩) n cap' := by
  rcases h.row.2 with ⟨h1, h0⟩ | ⟨g, c, cur, e, -⟩
  · cases h1; omega
  · cases e; exact ⟨g, cap, rfl⟩
theorem NS.at' {w : World} {B g n cap : Nat} {ns : List Nv} (h : NS w B (.slice (some ⟨g, 0, none⟩) n cap) ns) (i : Nat) (x : Nv) (hx : ns[i]? = some x) :
    (w.cell? ⟨g, i * 5, none⟩ = some (.int .i64 x.n.lv) ∧ w.cell? ⟨g, i * 5 + 1, none⟩ = some (.int .i64 x.n.lk) ∧ w.cell? ⟨g, i * 5 + 2, none⟩ = some (.int .i64 x.n.hi) ∧ w.cell? ⟨g, i * 5 + 3, none⟩ = some x.kv ∧ w.cell? ⟨g, i * 5 + 4, none⟩ = some x.vv) ∧ (∀ j, w.frozen? ⟨g, j, none⟩ = false) ∧ Rd w x.kv x.n.ks ∧ Rd w x.vv x.n.vs := by
  have hl : n = ns.length := by
    rcases h.row.2 with ⟨h1, h0⟩ | ⟨g, c, cur, e, -⟩
    · cases h1
    · cases e; rfl
  subst hl
  exact h.at i x hx

end Go.Proofs.YtajobgmnmbnhiaaDoor.Sap
