/- WHAT IS PROVED HERE: saplingkeep's at: the map at a time, when all operations have ended. Conditions: the Point of each operation is one of its accesses. -/
import Derived.Test.YtajobgmnmbnhiaaGreatDoorRows
import Derived.Test.YtajobgmnmbnhiaaGreatDoorPt36
import Derived.Deep.Slices
import Derived.OpenShut
namespace Go.Proofs.YtajobgmnmbnhiaaGreatDoor.Sap
open Go.RowKit
theorem eql_nilD (w : World) (a : Option Addr) (l c : Nat) : (binOp .eql 32 (.slice a l c) (.slice none 0 0)).run Tryz.prog w = .ok (.bool a.isNone) w := by
  simp only [binOp]
  simp [run_equal_slice_nil w 32 109 a l c Tryz.underlying32]
def OrdI (x : Wd) (o : List Dn) : Prop := (x.ov = .slice none 0 0 ∧ o = []) ∨ (o.Perm (tkL x.ds) ∧ Srt o)
theorem dn_cells {w : World} {B g n cap : Nat} {L : List Dn} (hr : w.ownsRow B 109 4 (.slice (some ⟨g, 0, none⟩) n cap) n (dnc L)) {j : Nat} {d : Dn} (hj : L[j]? = some d) (hjn : j < n) :
    w.cell? ⟨g, j * 4, none⟩ = some (.int .i64 d.t) ∧ w.cell? ⟨g, j * 4 + 1, none⟩ = some (.int .i64 d.k) ∧ w.cell? ⟨g, j * 4 + 2, none⟩ = some (.int .i64 d.key) ∧ w.cell? ⟨g, j * 4 + 3, none⟩ = some (.int .i64 d.v) := by
  obtain ⟨h1, h2, h3, h4⟩ := dnc_at hj
  refine ⟨?_, ?_, ?_, ?_⟩
  · rw [World.ownsRow.cellAt hr _ (by omega)]; exact h1
  · rw [World.ownsRow.cellAt hr _ (by omega)]; exact h2
  · rw [World.ownsRow.cellAt hr _ (by omega)]; exact h3
  · rw [World.ownsRow.cellAt hr _ (by omega)]; exact h4
set_option maxRecDepth 100000 in
set_option maxHeartbeats 6400000 in
theorem at_any (x : Wd) (o : List Dn) (time : Int) (fr : List As) (w0 w : World) (B : Nat) (hov : ∀ d ∈ x.ds, d.over) (hnd : x.ds.length ≤ 100000000) (hO : OrdI x o) (h : M w0 B w (x.as ++ (.row 109 4 x.ov o.length (dnc o) :: fr))) :
    Calls Tryz.prog 31 #[.pointer (some ⟨x.gw, 0, none⟩), .int .i64 time] w fun e w' => ∃ gt, e = .returned (.pointer (some ⟨gt, 0, none⟩)) ∧ ∃ ov' o', o'.Perm (tkL x.ds) ∧ Srt o' ∧ ∃ kv vv,
      M w0 B w' (.blk gt #[kv, vv] 55 :: .row 3 1 kv (tabO (ahead o' time)).1.length (ints (tabO (ahead o' time)).1) :: .row 3 1 vv (tabO (ahead o' time)).1.length (ints (tabO (ahead o' time)).2) :: (({ x with ov := ov' } : Wd).as ++ (.row 109 4 ov' o'.length (dnc o') :: fr))) := by
  obtain ⟨n, hn⟩ : ∃ n, x.ds.length = n := ⟨_, rfl⟩
  have HN := hideIt hn
  have hg := h.cell (i := 0) rfl 13 x.ov rfl
  have hrow : As.holds w B (.row 109 4 x.ov o.length (dnc o)) := h.holds _ (by simp)
  obtain ⟨oa, oc, hoa⟩ := As.form0 hrow
  rw [hoa] at hg
  have hq := fun u => eql_nilD u oa o.length oc
  have HM := hideIt h
  have HO := hideIt hO
  have HOV := hideIt hov
  have HOA := hideIt hoa
  rw [hn] at hnd
  clear h hO hov hrow hn hoa
  go_enter Tryz.func31, Tryz.ntmps31
  go_upto_if 11 with fail
  go_cut [] (fun wy => ∃ ov' o', Hid (o'.Perm (tkL x.ds)) ∧ Hid (Srt o') ∧ Hid (M w0 B wy (({ x with ov := ov' } : Wd).as ++ (.row 109 4 ov' o'.length (dnc o') :: fr))))
  case first =>
    cases oa with
    | none =>
      have CT := hideIt (took_any x _ w0 w B HOV.out (by rw [HN.out]; exact hnd) HM.out)
      go_wp2_with fail
      refine CT.out.mono ?_
      rintro e w1 ⟨ov, rfl, out, hp, hs, hM1⟩
      obtain ⟨va, vc, rfl⟩ := As.form0 (hM1.get (i := 0) rfl)
      have HP := hideIt hp
      have HS := hideIt hs
      have g13 := hM1.cell (i := 1) rfl 13 x.ov rfl
      have f13 := hM1.free (i := 1) rfl 13
      obtain ⟨x', hx'⟩ : ∃ y : Wd, y = { x with ov := .slice va out.length vc } := ⟨_, rfl⟩
      have S1 : M w0 B (w1.setCell ⟨x.gw, 13, none⟩ (.slice va out.length vc)) (.row 109 4 (.slice va out.length vc) out.length (dnc out) :: (x'.as ++ (.row 109 4 x.ov o.length (dnc o) :: fr))) := by
        subst hx'
        exact hM1.store (i := 1) (j := 13) rfl (.slice va out.length vc) rfl
      have S2 := S1.sub (List.Sublist.cons_cons _ (List.Sublist.append_left (List.sublist_cons_self _ _) _))
      have S3 := hideIt (S2.perm (l' := x'.as ++ (.row 109 4 (.slice va out.length vc) out.length (dnc out) :: fr)) List.perm_middle)
      rw [hx'] at S3
      clear CT hp hs hM1 S1 S2 hx'
      go_wp2
      go_meet
      case rel => exact ⟨_, out, HP.out, HS.out, S3.out⟩
    | some a =>
      have HX : Hid (o.Perm (tkL x.ds) ∧ Srt o) := by
        rcases HO.out with ⟨h1, -⟩ | h1
        · rw [HOA.out] at h1; cases h1
        · exact h1
      go_wp2
      go_meet
      case rel => exact ⟨x.ov, o, HX.out.1, HX.out.2, HM.out⟩
  case rest =>
    obtain ⟨ov', o', hp, hs, hM⟩ := hcut
    clear HM HO HOA hq hg
    obtain ⟨x', hx'⟩ : ∃ y : Wd, y = { x with ov := ov' } := ⟨_, rfl⟩
    have HX := hideIt hx'
    rw [← hx'] at hM
    have hgw : x'.gw = x.gw := by rw [hx']
    have hov' : x'.ov = ov' := by rw [hx']
    obtain ⟨m, hm⟩ : ∃ m, o'.length = m := ⟨_, rfl⟩
    have HMM := hideIt hm
    have hmn : m ≤ 100000000 := by
      have h1 := hp.out.length_eq
      have h2 : (tkL x.ds).length ≤ x.ds.length := List.length_filterMap_le _ _
      have h3 := HN.out
      omega
    rw [hm] at hM
    obtain ⟨va, vc, rfl⟩ := As.form0 (hM.out.holds (.row 109 4 ov' m (dnc o')) (by simp))
    have A0 := hideIt (M.nil2 (e := 3) (z := 1) (l1 := [_]) (M.nil2 (e := 3) (z := 1) (l1 := [_]) (hM.out.alloc #[.slice none 0 0, .slice none 0 0] 55)))
    clear hM hx' hm
    go_wp2
    obtain ⟨gt, hgt⟩ : ∃ g, wc.heap.size = g := ⟨_, rfl⟩
    rw [hgt] at A0 ⊢
    clear hgt
    go_loopw [6] (fun vi wr => ∃ (i l : Nat) (kv vv : Value), vi = .int .i64 i ∧ i ≤ m ∧ Hid ((tabO (o'.take i)).1.length = l ∧ (tabO (o'.take i)).2.length = l) ∧ l ≤ i ∧ Hid (∀ j d, j < i → o'[j]? = some d → d.t < time) ∧ Hid (M w0 B wr (.blk gt #[kv, vv] 55 :: .row 3 1 kv l (ints (tabO (o'.take i)).1) :: .row 3 1 vv l (ints (tabO (o'.take i)).2) :: (x'.as ++ (.row 109 4 (.slice va m vc) m (dnc o') :: fr))))) (fun vi _ => m - (intOf vi).toNat)
    case atStart => exact ⟨0, 0, _, _, rfl, by omega, ⟨rfl, rfl⟩, by omega, fun j d hj => by omega, A0.out⟩
    case round =>
      clear A0
      obtain ⟨i, l, kv, vv, rfl, hi, hl, hli, hT, hM⟩ := hrel
      have g13 := hM.out.cell (i := 3) rfl 13 x'.ov rfl
      rw [hov', hgw] at g13
      have hi0 : (0 : Int) ≤ (i : Int) := by omega
      have hrow : As.holds wr B (.row 109 4 (.slice va m vc) m (dnc o')) := hM.out.holds _ (by simp)
      by_cases hlt : i < m
      · have him : (i : Int) < (m : Int) := by omega
        obtain ⟨d, hd⟩ : ∃ d, o'[i]? = some d := ⟨_, List.getElem?_eq_getElem (by rw [HMM.out]; exact hlt)⟩
        obtain ⟨gg, cc, hda⟩ := As.form hrow (by omega)
        cases hda
        obtain ⟨y0, y1, y2, y3⟩ := dn_cells hrow.own hd hlt
        have HD := hideIt hd
        have hlg : gg < wr.heap.size := lt_of_cell y0
        have TS := hideIt (tabO_succ o' i d hd)
        clear hrow hd
        by_cases ht : d.t < time
        · have CD := hideIt (do_any gt l kv vv (tabO (o'.take i)).1 (tabO (o'.take i)).2 d.k d.key d.v _ w0 wr B (by omega) hl.out.1 hl.out.2 hM.out)
          have HL := hideIt (tdo_len d.k d.key d.v (tabO (o'.take i)).1 (tabO (o'.take i)).2 (by rw [hl.out.1, hl.out.2]))
          rw [← TS.out] at CD HL
          have hl2 : (tabO (o'.take (i + 1))).1.length ≤ i + 1 := (tabO_len o' (i + 1)).2
          clear hM
          go_wp2_with fail
          refine CD.out.mono ?_
          rintro e w1 ⟨⟨u, rfl⟩, kv', vv', hM1⟩
          have H1 := hideIt hM1
          clear CD hM1 g13 y0 y1 y2 y3
          have HT2 : Hid (∀ j d, j < i + 1 → o'[j]? = some d → d.t < time) := by
            intro j d' hj hd'
            rcases Nat.lt_or_ge j i with h | h
            · exact hT.out j d' h hd'
            · obtain rfl : j = i := by omega
              rw [HD.out] at hd'; cases hd'; exact ht
          go_wp2
          go_roundw
          case rel => exact ⟨i + 1, _, kv', vv', by go_num, by omega, ⟨rfl, HL.out.1.symm⟩, hl2, HT2.out, H1.out⟩
          case measure => simp [intOf]; omega
        · have HE : Hid (ahead o' time = o'.take i) := ahead_eq o' time i hT.out (fun d' hd' => by rw [HD.out] at hd'; cases hd'; exact ht)
          have hM2 : Hid (M w0 B wr (.blk gt #[kv, vv] 55 :: .row 3 1 kv (tabO (ahead o' time)).1.length (ints (tabO (ahead o' time)).1) :: .row 3 1 vv (tabO (ahead o' time)).1.length (ints (tabO (ahead o' time)).2) :: (({ x with ov := .slice (some ⟨gg, 0, none⟩) m vc } : Wd).as ++ (.row 109 4 (.slice (some ⟨gg, 0, none⟩) m vc) o'.length (dnc o') :: fr)))) := by
            unfold Hid; rw [HE.out, hl.out.1, HMM.out, ← HX.out]; exact hM.out
          clear hM
          go_wp2
          go_ret
          exact ⟨_, rfl, _, o', hp.out, hs.out, kv, vv, hM2.out⟩
      · obtain rfl : i = m := by omega
        have HE : Hid (ahead o' time = o'.take i) := ahead_eq o' time i hT.out (fun d' hd' => by have := (List.getElem?_eq_some_iff.1 hd').1; rw [HMM.out] at this; omega)
        have hM2 : Hid (M w0 B wr (.blk gt #[kv, vv] 55 :: .row 3 1 kv (tabO (ahead o' time)).1.length (ints (tabO (ahead o' time)).1) :: .row 3 1 vv (tabO (ahead o' time)).1.length (ints (tabO (ahead o' time)).2) :: (({ x with ov := .slice va i vc } : Wd).as ++ (.row 109 4 (.slice va i vc) o'.length (dnc o') :: fr)))) := by
          unfold Hid; rw [HE.out, hl.out.1, HMM.out, ← HX.out]; exact hM.out
        clear hM hrow
        go_wp2
        go_ret
        exact ⟨_, rfl, _, o', hp.out, hs.out, kv, vv, hM2.out⟩
theorem M.cellMem {w0 w : World} {B b : Nat} {l : List As} {c : Array Value} {t : TypeId} (h : M w0 B w l) (hm : As.blk b c t ∈ l) (j : Nat) (v : Value) (hv : c[j]? = some v) : w.cell? ⟨b, j, none⟩ = some v := by
  rw [Go.Joins.cell_of_block (h.holds _ hm).2]; exact hv
def PS (x : Wd) (ga : Nat) (ans : Array Value) (fr : List As) (w0 : World) (B : Nat) (W : World) : Prop :=
  ∃ ov' o', OrdI { x with ov := ov' } o' ∧ M w0 B W (({ x with ov := ov' } : Wd).as ++ (.row 109 4 ov' o'.length (dnc o') :: .blk ga ans 46 :: fr))
theorem PS.below {x : Wd} {ga : Nat} {ans : Array Value} {fr : List As} {w0 : World} {B : Nat} {W W' : World} (h : PS x ga ans fr w0 B W) (hb : Below W.heap.size W W') : PS x ga ans fr w0 B W' := by
  obtain ⟨ov', o', h1, h2⟩ := h
  exact ⟨ov', o', h1, h2.below hb⟩
def TabR (gt : Nat) (K V : List Int) (W : World) : Prop := ∃ tk tv, W.cell? ⟨gt, 0, none⟩ = some tk ∧ W.cell? ⟨gt, 1, none⟩ = some tv ∧ Rd W tk K ∧ Rd W tv V
theorem TabR.below {gt : Nat} {K V : List Int} {W W' : World} (h : TabR gt K V W) (hb : Below W.heap.size W W') : TabR gt K V W' := by
  obtain ⟨tk, tv, h1, h2, h3, h4⟩ := h
  exact ⟨tk, tv, cell_below hb _ _ h1, cell_below hb _ _ h2, h3.below hb, h4.below hb⟩
theorem PS.facts {x : Wd} {ga i : Nat} {ans : Array Value} {fr : List As} {w0 : World} {B : Nat} {W : World} {d : Dd} (h : PS x ga ans fr w0 B W) (hd : x.ds[i]? = some d) :
    (W.cell? ⟨d.gd, 1, none⟩ = some (.int .i64 d.key) ∧ W.cell? ⟨d.gd, 2, none⟩ = some (.int .i64 d.v) ∧ W.cell? ⟨d.gd, 4, none⟩ = some d.tm) ∧ Rd W d.kv d.ks ∧ Rd W d.vv d.vs ∧ Rd W d.tm d.ts ∧ As.holds W B (.row 76 2 d.cv d.cs.length (cutc d.cs)) := by
  obtain ⟨ov', o', -, h2⟩ := h
  have D := M.deed (pre := []) (x := { x with ov := ov' }) h2 hd
  refine ⟨⟨D.cell (i := 0) rfl 1 _ rfl, D.cell (i := 0) rfl 2 _ rfl, D.cell (i := 0) rfl 4 _ rfl⟩, owns_rd (D.get (i := 9) rfl).own, owns_rd (D.get (i := 10) rfl).own, owns_rd (D.get (i := 2) rfl).own, D.get (i := 11) rfl⟩
theorem PS.ans {x : Wd} {ga : Nat} {ans : Array Value} {fr : List As} {w0 : World} {B : Nat} {W : World} (h : PS x ga ans fr w0 B W) (j : Nat) (v : Value) (hv : ans[j]? = some v) : W.cell? ⟨ga, j, none⟩ = some v := by
  obtain ⟨ov', o', -, h2⟩ := h
  exact h2.cellMem (b := ga) (c := ans) (t := 46) (by simp) j v hv
theorem PS.at {x : Wd} {ga : Nat} {ans : Array Value} {fr : List As} {w0 : World} {B : Nat} {W : World} (h : PS x ga ans fr w0 B W) (time : Int) (hov : ∀ d ∈ x.ds, d.over) (hnd : x.ds.length ≤ 100000000) :
    Calls Tryz.prog 31 #[.pointer (some ⟨x.gw, 0, none⟩), .int .i64 time] W fun e w' => ∃ gt, e = .returned (.pointer (some ⟨gt, 0, none⟩)) ∧ ∃ o', o'.Perm (tkL x.ds) ∧ Srt o' ∧ PS x ga ans fr w0 B w' ∧ TabR gt (tabO (ahead o' time)).1 (tabO (ahead o' time)).2 w' ∧ (tabO (ahead o' time)).1.length = (tabO (ahead o' time)).2.length ∧ (tabO (ahead o' time)).1.length ≤ 100000000 := by
  obtain ⟨ov', o', h1, h2⟩ := h
  refine (at_any { x with ov := ov' } o' time _ w0 W B hov hnd h1 h2).mono ?_
  rintro e w' ⟨gt, rfl, ov2, o2, hp, hs, kv, vv, hM⟩
  have hlen : (tabO (ahead o2 time)).1.length = (tabO (ahead o2 time)).2.length ∧ (tabO (ahead o2 time)).1.length ≤ 100000000 := by
    obtain ⟨k, hk⟩ : ∃ k, ahead o2 time = o2.take k := ⟨_, (List.prefix_iff_eq_take.1 (List.takeWhile_prefix _))⟩
    have hkl : o2.take k = o2.take (min k o2.length) := by
      rcases Nat.le_total k o2.length with h | h
      · rw [Nat.min_eq_left h]
      · rw [Nat.min_eq_right h, List.take_of_length_le h, List.take_of_length_le (Nat.le_refl _)]
    rw [hk, hkl]
    have h3 := tabO_len o2 (min k o2.length)
    have h4 := hp.length_eq
    have h5 : (tkL x.ds).length ≤ x.ds.length := List.length_filterMap_le _ _
    exact ⟨h3.1, by have := h3.2; have h6 : min k o2.length ≤ o2.length := Nat.min_le_right _ _; change o2.length = (tkL x.ds).length at h4; omega⟩
  refine ⟨gt, rfl, o2, hp, hs, ⟨ov2, o2, Or.inr ⟨hp, hs⟩, (hM.sub (List.sublist_cons_self _ _)).sub (List.sublist_cons_self _ _) |>.sub (List.sublist_cons_self _ _)⟩, ⟨kv, vv, hM.cell (i := 0) rfl 0 _ rfl, hM.cell (i := 0) rfl 1 _ rfl, owns_rd (hM.get (i := 1) rfl).own, ?_⟩, hlen.1, hlen.2⟩
  have := (hM.get (i := 2) rfl).own
  rw [hlen.1] at this
  exact owns_rd this
structure Good (Inv : Nat → Wd → Prop) (rk : Nat → Wd → Nat) : Prop where
  pv : ∀ W, Tab W → ∃ Pv Pb, Pvd Pv Pb W.heap.size W W.heap.size ∧ ∀ tg tc ug uc vg vc bg bc, Pv 0 (Wd.first W.heap.size tg tc ug uc vg vc bg bc)
  mc : ∀ W, Tab W → Mc (Inv W.heap.size) rk W.heap.size W W.heap.size
  ini : ∀ gw tg tc ug uc vg vc bg bc, Inv gw (Wd.first gw tg tc ug uc vg vc bg bc)
  ov : ∀ gw x, Inv gw x → x.ov = .slice none 0 0
  over : ∀ gw x, Inv gw x → (∀ c, c < 64 → x.bs[c]? = some (-1)) → x.now ≤ 90000000 → ∀ d ∈ x.ds, d.over
theorem M.deedAt {w0 w : World} {B j n : Nat} {x : Wd} {d : Dd} {fr : List As} (h : M w0 B w (x.as ++ fr)) (hd : x.ds[j]? = some d) (hn : x.ds.length = n) : ∃ dg dc, w.cell? ⟨x.gw, 3, none⟩ = some (.slice (some ⟨dg, 0, none⟩) n dc) ∧ w.cell? ⟨dg, j, none⟩ = some (.pointer (some ⟨d.gd, 0, none⟩)) ∧ w.cell? ⟨d.gd, 0, none⟩ = some (.int .i64 d.k) := by
  have hl := (List.getElem?_eq_some_iff.1 hd).1
  obtain ⟨dg, dc, hdv⟩ := As.form (h.get (i := 2) rfl) (show 0 < x.ds.length by omega)
  have g3 := h.cell (i := 0) rfl 3 x.dv rfl
  have hrow := (h.get (i := 2) rfl).own
  have hdp : (x.ds.map Dd.ptr)[j]? = some (.pointer (some ⟨d.gd, 0, none⟩)) := by rw [List.getElem?_map, hd]; rfl
  rw [hdv] at g3 hrow
  have c0 := World.ownsRow.cellAt hrow j (by omega)
  rw [hdp] at c0
  rw [hn] at g3
  have D := M.deed (pre := []) h hd
  exact ⟨dg, dc, g3, c0, D.cell (i := 0) rfl 0 (.int .i64 d.k) rfl⟩
end Go.Proofs.YtajobgmnmbnhiaaGreatDoor.Sap
namespace Go.Proofs.YtajobgmnmbnhiaaGreatDoor.Sap
open Go.RowKit Go.ChangeShapes Go.WideShapes Go.Deep
theorem cellsOp : Tryz.prog.cellsOf 36 = 3 := by kernel_rfl
theorem cellsI : Tryz.prog.cellsOf 3 = 1 := by kernel_rfl
theorem i64_of {n : Int} (h : (Lit.int .i64 n).wf = true) : I64 n := by
  simpa [I64, Lit.wf, IntKind.min, IntKind.max, IntKind.signed, IntKind.bits] using h
theorem list3s {α : Type} {l : List α} (h : l.length = 3) : ∃ a b c, l = [a, b, c] := by
  match l, h with
  | [a, b, c], _ => exact ⟨a, b, c, rfl⟩
theorem bulk_one {H : Type} (d : DataW H) : 1 ≤ Rows.uptoBulk d := by
  cases d with
  | lit l => cases l <;> simp [Rows.uptoBulk]
  | nil => simp [Rows.uptoBulk]
  | ptr d => simp [Rows.uptoBulk]
  | slice elems spare => simp [Rows.uptoBulk]
  | agg parts => simp [Rows.uptoBulk]
  | iface t d => simp [Rows.uptoBulk]
  | map entries => simp [Rows.uptoBulk]
  | held h => simp [Rows.uptoBulk]
end Go.Proofs.YtajobgmnmbnhiaaGreatDoor.Sap
