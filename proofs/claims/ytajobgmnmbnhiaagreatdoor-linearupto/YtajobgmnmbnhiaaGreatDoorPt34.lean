/- WHAT IS PROVED HERE: saplingkeep's alone and settle over any program that keeps an invariant of the world: what a machine is (Mc), one client behind the other moves alone till all operations have ended. Conditions: those of a machine: each access and each beginning keeps the invariant, and a client that moves comes nearer to its end. -/
import Derived.Test.YtajobgmnmbnhiaaGreatDoorPt44
import Derived.Deep.Slices
import Derived.OpenShut
namespace Go.Proofs.YtajobgmnmbnhiaaGreatDoor.Sap
open Go.RowKit
set_option maxRecDepth 100000 in
set_option maxHeartbeats 6400000 in
theorem Mc.settle {Inv : Wd → Prop} {rk : Nat → Wd → Nat} {gw : Nat} {w0 : World} {B : Nat} (m : Mc Inv rk gw w0 B) (x0 : Wd) (w : World) (fr : List As) (hI : Inv x0) (hn : x0.now ≤ 80000000) (h : M w0 B w (x0.as ++ fr)) :
    Calls Tryz.prog 19 #[.pointer (some ⟨gw, 0, none⟩)] w fun e w' => (∃ u, e = .returned u) ∧ ∃ x', Inv x' ∧ (∀ c, c < 64 → x'.bs[c]? = some (-1)) ∧ x'.now ≤ x0.now + 64000 ∧ x'.ds.length = x0.ds.length ∧ M w0 B w' (x'.as ++ fr) := by
  have HM := hideIt h
  have HI := hideIt hI
  have HMC := hideIt m
  clear h hI m
  go_enter Tryz.func19, Tryz.ntmps19
  go_wp2
  go_loopw [2] (fun y wr => ∃ (c : Nat) (x : Wd), y = .int .i64 c ∧ c ≤ 64 ∧ Hid (∀ j, j < c → x.bs[j]? = some (-1)) ∧ Hid (x.now ≤ x0.now + 1000 * (c : Int)) ∧ Hid (x.ds.length = x0.ds.length) ∧ Hid (Inv x) ∧ Hid (M w0 B wr (x.as ++ fr))) (fun i _ => 64 - (intOf i).toNat)
  case atStart => exact ⟨0, x0, rfl, by omega, fun j hj => by omega, by unfold Hid; omega, rfl, HI.out, HM.out⟩
  case round =>
    clear HM HI
    obtain ⟨c, x, rfl, hc, hr, hnw, hnd, hI, hM⟩ := hrel
    have hg := HMC.out.pg x hI.out
    subst hg
    have g14 := hM.out.cell (i := 0) rfl 14 (.bool false) rfl
    by_cases hlt : c < 64
    · have hc1 : (c : Int) < 64 := by omega
      have CM := hideIt (HMC.out.alone c x wr fr hlt hI.out (by have := hnw.out; omega) hM.out)
      clear hM hI
      go_wp2_with fail
      refine CM.out.mono ?_
      rintro e w1 ⟨⟨u, rfl⟩, x', hI', hb', hn', hd', hk', hM'⟩
      have HI2 := hideIt hI'
      have HM2 := hideIt hM'
      have HB : Hid (∀ j, j < c + 1 → x'.bs[j]? = some (-1)) := fun j hj => by
        rcases Nat.lt_or_ge j c with h | h
        · rw [hk' j (by omega)]; exact hr.out j h
        · obtain rfl : j = c := by omega
          exact hb'
      have HN : Hid (x'.now ≤ x0.now + 1000 * ((c + 1 : Nat) : Int)) := by unfold Hid; have := hnw.out; omega
      have HD : Hid (x'.ds.length = x0.ds.length) := hd'.trans hnd.out
      clear CM g14 hI' hM' hb' hk' hn' hd'
      go_wp2
      go_roundw
      case rel => exact ⟨c + 1, x', by go_num, by omega, HB.out, HN.out, HD.out, HI2.out, HM2.out⟩
      case measure => simp [intOf]; omega
    · obtain rfl : c = 64 := by omega
      rw [show ((64 : Nat) : Int) = 64 from rfl]
      have HM := hideIt hM.out
      clear hM
      go_wp2
      exact bodyPost_end (results_none Tryz.results19 _ _ _) rfl ⟨⟨_, rfl⟩, x, hI.out, hr.out, by have := hnw.out; omega, hnd.out, HM.out⟩
set_option maxRecDepth 100000 in
set_option maxHeartbeats 6400000 in
theorem play_gen (sv : Value) (ts : List Tn) (Inv : Wd → Prop) (rk : Nat → Wd → Nat) (w : World) (hT : TRd w sv ts) (hok : ∀ t ∈ ts, t.ok) (hlen : ts.length ≤ 1048576) (m : Mc Inv rk w.heap.size w w.heap.size) (h0 : ∀ tg tc ug uc vg vc bg bc, Inv (Wd.first w.heap.size tg tc ug uc vg vc bg bc)) :
    Calls Tryz.prog 18 #[sv] w fun e w' => e = .returned (.pointer (some ⟨w.heap.size, 0, none⟩)) ∧ ∃ x', Inv x' ∧ x'.now ≤ 40 * (ts.length : Int) ∧ x'.ds.length ≤ ts.length ∧ M w w.heap.size w' (x'.as ++ []) := by
  have HT := hideIt hT
  obtain ⟨ao, cap, rfl, -⟩ := hT
  have HOK := hideIt hok
  have HMC := hideIt m
  have H0 := hideIt h0
  have HL := hideIt hlen
  obtain ⟨n, hn⟩ : ∃ n, ts.length = n := ⟨_, rfl⟩
  have HNN := hideIt hn
  rw [hn] at HL HT ⊢
  clear hok m h0 hlen hn
  obtain ⟨gw, hgw⟩ : ∃ g, w.heap.size = g := ⟨_, rfl⟩
  have HGW := hideIt hgw
  rw [hgw] at HMC H0 ⊢
  clear hgw
  go_enter Tryz.func18, Tryz.ntmps18
  go_wp2_with fail
  refine (fresh_wd w).mono ?_
  rintro e w1 ⟨rfl, tg, tc, ug, uc, vg, vc, bg, bc, hM⟩
  rw [HGW.out] at hM ⊢
  have A0 := hideIt hM
  clear hM
  go_wp2
  go_loopw [4] (fun y wr => ∃ (j : Nat) (x : Wd), y = .int .i64 j ∧ j ≤ n ∧ Hid (x.now ≤ 40 * (j : Int)) ∧ Hid (x.ds.length ≤ j) ∧ Hid (Inv x) ∧ Hid (M w gw wr (x.as ++ []))) (fun i _ => n - (intOf i).toNat)
  case atStart => exact ⟨0, _, rfl, by omega, by unfold Hid; simp [Wd.first], by unfold Hid; simp [Wd.first], H0.out tg tc ug uc vg vc bg bc, A0.out⟩
  case round =>
    clear A0
    obtain ⟨j, x, rfl, hj, hnw, hnd, hI, hM⟩ := hrel
    have hg : Hid (x.gw = gw) := HMC.out.pg x hI.out
    have g14 := hM.out.cell (i := 0) rfl 14 (.bool false) rfl
    rw [hg.out] at g14
    by_cases hlt : j < n
    · have hj1 : (j : Int) < (n : Int) := by omega
      have hj0 : (0 : Int) ≤ (j : Int) := by omega
      obtain ⟨ao2, cap2, e2, hT2⟩ := HT.out
      obtain ⟨b, off, e3, hT3⟩ := hT2 (by rw [HNN.out]; omega)
      obtain ⟨t, ht⟩ : ∃ t, ts[j]? = some t := ⟨_, List.getElem?_eq_getElem (by rw [HNN.out]; exact hlt)⟩
      cases e2
      subst e3
      have hb2 : Below w.heap.size w wr := by have := hM.out.bl; rw [← HGW.out] at this; exact this
      obtain ⟨c0, c1, c2, c3, c4⟩ := hT3 j t ht
      have c0 := cell_below hb2 _ _ c0
      have c1 := cell_below hb2 _ _ c1
      have c2 := cell_below hb2 _ _ c2
      have c3 := cell_below hb2 _ _ c3
      have c4 := cell_below hb2 _ _ c4
      have hok := HOK.out t (List.mem_of_getElem? ht)
      have CM := hideIt (HMC.out.turn x t.cl t.k t.key t.v t.mv wr [] hok.cl hok.k hok.key hok.v hok.mv hI.out (by have := hnw.out; have := HL.out; omega) (by have := hnd.out; have := HL.out; omega) hM.out)
      clear hM hI hb2 hT3 hT2 ht hok
      go_wp2_with fail
      refine CM.out.mono ?_
      rintro e w2 ⟨⟨u, rfl⟩, x', hI', hn', hd', hM'⟩
      have HI2 := hideIt hI'
      have HM2 := hideIt hM'
      have HN2 : Hid (x'.now ≤ 40 * ((j + 1 : Nat) : Int)) := by unfold Hid; have := hnw.out; omega
      have HD2 : Hid (x'.ds.length ≤ j + 1) := by unfold Hid; have := hnd.out; omega
      clear CM g14 c0 c1 c2 c3 c4 hI' hM' hn' hd' hg
      have hl6 := HL.out
      go_wp2
      go_roundw
      case rel => exact ⟨j + 1, x', by go_num, by omega, HN2.out, HD2.out, HI2.out, HM2.out⟩
      case measure => simp [intOf]; omega
    · obtain rfl : j = n := by omega
      go_wp2
      go_ret
      exact ⟨rfl, x, hI.out, hnw.out, hnd.out, hM.out⟩
end Go.Proofs.YtajobgmnmbnhiaaGreatDoor.Sap
namespace Go.Proofs.YtajobgmnmbnhiaaGreatDoor.Sap
open Go.RowKit Go.ChangeShapes Go.WideShapes Go.Deep
theorem cellsTurn : Tryz.prog.cellsOf 84 = 5 := by kernel_rfl
theorem list5s {α : Type} {l : List α} (h : l.length = 5) : ∃ a b c d e, l = [a, b, c, d, e] := by
  match l, h with
  | [a, b, c, d, e], _ => exact ⟨a, b, c, d, e, rfl⟩
theorem turn_in {H : Type} {enc : TypeId × Value → H} {W : World} {base : Nat} {fuel : Nat} {cs : List Value} {x : DataW H × List MemPlace} {sp : Nat → Bool}
    (h : DataW.trod enc Tryz.prog W base sp true fuel 84 cs = some x) : ∃ t : Tn, t.ok ∧ cs = [.int .i64 t.cl, .int .i64 t.k, .int .i64 t.key, .int .i64 t.v, .int .i64 t.mv] := by
  obtain ⟨xs, m, -, -, hl, hlen, hf⟩ := DataW.trod_struct Tryz.underlying84 h
  rw [cellsTurn] at hl
  obtain ⟨c0, c1, c2, c3, c4, rfl⟩ := list5s hl
  obtain ⟨y0, y1, y2, rfl⟩ := list3s (l := xs) hlen
  have f0 : DataW.trod enc Tryz.prog W base sp true m 3 (List.take (Tryz.prog.cellsOf 3) [c0, c1, c2, c3, c4]) = some y0 := hf 0 _ rfl
  have f1 : DataW.trod enc Tryz.prog W base sp true m 36 (List.take (Tryz.prog.cellsOf 36) [c1, c2, c3, c4]) = some y1 := hf 1 _ rfl
  have f2 : DataW.trod enc Tryz.prog W base sp true m 3 (List.take (Tryz.prog.cellsOf 3) [c4]) = some y2 := hf 2 _ rfl
  rw [cellsI] at f0 f2
  rw [cellsOp] at f1
  obtain ⟨cl, e0, -, w0⟩ := DataW.trod_int Tryz.underlying3 f0
  obtain ⟨mv, e4, -, w4⟩ := DataW.trod_int Tryz.underlying3 f2
  obtain ⟨zs, m2, -, -, -, hlen2, hg⟩ := DataW.trod_struct Tryz.underlying36 f1
  obtain ⟨z0, z1, z2, rfl⟩ := list3s (l := zs) hlen2
  have g0 : DataW.trod enc Tryz.prog W base sp true m2 3 (List.take (Tryz.prog.cellsOf 3) [c1, c2, c3]) = some z0 := hg 0 _ rfl
  have g1 : DataW.trod enc Tryz.prog W base sp true m2 3 (List.take (Tryz.prog.cellsOf 3) [c2, c3]) = some z1 := hg 1 _ rfl
  have g2 : DataW.trod enc Tryz.prog W base sp true m2 3 (List.take (Tryz.prog.cellsOf 3) [c3]) = some z2 := hg 2 _ rfl
  rw [cellsI] at g0 g1 g2
  obtain ⟨k, e1, -, w1⟩ := DataW.trod_int Tryz.underlying3 g0
  obtain ⟨key, e2, -, w2⟩ := DataW.trod_int Tryz.underlying3 g1
  obtain ⟨v, e3, -, w3⟩ := DataW.trod_int Tryz.underlying3 g2
  simp only [List.take_succ_cons, List.take_zero, List.cons.injEq, and_true] at e0 e1 e2 e3 e4
  subst e0 e1 e2 e3 e4
  exact ⟨⟨cl, k, key, v, mv⟩, ⟨i64_of w0, i64_of w1, i64_of w2, i64_of w3, i64_of w4⟩, rfl⟩
theorem script_in {H : Type} {enc : TypeId × Value → H} {W : World} {base : Nat} {fuel : Nat} {c : Value} {x : DataW H × List MemPlace} {sp : Nat → Bool}
    (h : DataW.trod enc Tryz.prog W base sp true fuel 59 [c] = some x) :
    ∃ ts : List Tn, TRd W c ts ∧ (∀ t ∈ ts, t.ok) ∧ (ts = [] ∨ ∃ e s, x.1 = .slice e s ∧ ts.length = e.length) := by
  rcases open_slice Tryz.underlying59 h with ⟨hc, -⟩ | ⟨a, len, cap, m, n, D, Pl, hc, -, hlc, -, hm, hx, hel⟩
  · simp only [List.cons.injEq, and_true] at hc
    subst hc
    exact ⟨[], ⟨none, 0, rfl, fun hp => absurd hp (by decide)⟩, fun t ht => (by cases ht), Or.inl rfl⟩
  · simp only [List.cons.injEq, and_true] at hc
    subst hc
    have hlm : len ≤ m := by rw [hm]; split <;> omega
    haveI : Inhabited Tn := ⟨⟨0, 0, 0, 0, 0⟩⟩
    obtain ⟨f, hf⟩ := choose_lt (α := Tn) (n := len) (p := fun i t => t.ok ∧ W.cell? (a.add (i * 5)) = some (.int .i64 t.cl) ∧ W.cell? (a.add (i * 5 + 1)) = some (.int .i64 t.k) ∧ W.cell? (a.add (i * 5 + 2)) = some (.int .i64 t.key) ∧ W.cell? (a.add (i * 5 + 3)) = some (.int .i64 t.v) ∧ W.cell? (a.add (i * 5 + 4)) = some (.int .i64 t.mv)) (fun i hi => by
      obtain ⟨cs', h1, h2⟩ := hel i (by omega)
      rw [cellsTurn] at h1
      obtain ⟨-, -, hcell⟩ := World.cells?_some h1
      obtain ⟨t, hok, rfl⟩ := turn_in h2
      have e0 := hcell 0 (by omega)
      have e1 := hcell 1 (by omega)
      have e2 := hcell 2 (by omega)
      have e3 := hcell 3 (by omega)
      have e4 := hcell 4 (by omega)
      rw [add_add] at e0 e1 e2 e3 e4
      exact ⟨t, hok, e0, e1, e2, e3, e4⟩)
    refine ⟨(List.range len).map f, ⟨some a, cap, by rw [List.length_map, List.length_range], fun hp => ?_⟩, fun t ht => ?_, Or.inr ⟨_, _, by rw [hx], by rw [List.length_map, List.length_map]⟩⟩
    · rw [List.length_map, List.length_range] at hp
      obtain ⟨b, off, spot⟩ := a
      have hspot : spot = none := by simpa [Addr.add] using World.cell?_spot (hf 0 hp).2.1
      subst hspot
      refine ⟨b, off, rfl, fun j t hj => ?_⟩
      have hjl : j < len := by have := (List.getElem?_eq_some_iff.1 hj).1; rw [List.length_map, List.length_range] at this; exact this
      obtain rfl : f j = t := by rw [List.getElem?_map, List.getElem?_range hjl] at hj; exact Option.some.inj hj
      have := (hf j hjl).2
      simp only [add_plain] at this
      simpa only [Nat.add_assoc] using this
    · obtain ⟨j, hj, rfl⟩ := List.mem_map.1 ht
      exact (hf j (List.mem_range.1 hj)).1
theorem bulk_len {H : Type} (l : List (DataW H)) : l.length ≤ Rows.uptoBulkAll l := by
  induction l with
  | nil => simp [Rows.uptoBulkAll]
  | cons x r ih => have := bulk_one x; simp only [Rows.uptoBulkAll, List.length_cons]; omega
theorem bulk_slice {H : Type} {d : DataW H} {r : List (DataW H)} {e s : List (DataW H)} (hd : d = .slice e s) (hk : Rows.uptoSmall H (d :: r) = true) : e.length ≤ 1048576 := by
  have h1 := of_decide_eq_true hk
  have h2 := bulk_len e
  rw [hd] at h1
  simp only [Rows.uptoBulkAll, Rows.uptoBulk] at h1
  omega
end Go.Proofs.YtajobgmnmbnhiaaGreatDoor.Sap
