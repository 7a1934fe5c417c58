/- WHAT IS PROVED HERE: saplingkeep's turn over any program that keeps an invariant of the world (Mc). Conditions: the numbers are small. -/
import Derived.Test.YtajobgmnmbnhiaaGreatDoorPt18
import Derived.Test.YtajobgmnmbnhiaaGreatDoorPt33
namespace Go.Proofs.YtajobgmnmbnhiaaGreatDoor.Sap
open Go.RowKit
theorem M.cellIn {w0 w : World} {B b : Nat} {l : List As} {c : Array Value} {t : TypeId} (h : M w0 B w l) (hm : As.blk b c t ∈ l) (j : Nat) (v : Value) (hv : c[j]? = some v) : w.cell? ⟨b, j, none⟩ = some v := by
  obtain ⟨i, hi⟩ := List.getElem?_of_mem hm
  exact h.cell hi j v hv
set_option maxRecDepth 100000 in
set_option maxHeartbeats 6400000 in
theorem Mc.turn {Inv : Wd → Prop} {rk : Nat → Wd → Nat} {gw : Nat} {w0 : World} {B : Nat} (m : Mc Inv rk gw w0 B) (x0 : Wd) (cl k key v mv : Int) (w : World) (fr : List As) (hcl : I64 cl) (hk : I64 k) (hkey : I64 key) (hv : I64 v) (hmv : I64 mv) (hI : Inv x0) (hn : x0.now ≤ 80000000) (hd : x0.ds.length ≤ 80000000) (h : M w0 B w (x0.as ++ fr)) :
    Calls Tryz.prog 34 #[.pointer (some ⟨gw, 0, none⟩), .agg #[.int .i64 cl, .int .i64 k, .int .i64 key, .int .i64 v, .int .i64 mv]] w fun e w' => (∃ u, e = .returned u) ∧ ∃ x', Inv x' ∧ x'.now ≤ x0.now + 40 ∧ x'.ds.length ≤ x0.ds.length + 1 ∧ M w0 B w' (x'.as ++ fr) := by
  have A0 := hideIt (h.alloc #[.int .i64 cl, .int .i64 k, .int .i64 key, .int .i64 v, .int .i64 mv] 84)
  obtain ⟨hc0, hc1⟩ := pickV_bd cl 64 (by omega)
  obtain ⟨hm0, hm1⟩ := pickV_bd mv 40 (by omega)
  have P1 := hideIt (fun W => pick_ok cl 64 W ⟨hcl, by omega, by omega⟩)
  have P2 := hideIt (fun W => pick_ok mv 40 W ⟨hmv, by omega, by omega⟩)
  have P3 := hideIt (fun W => right_make k key v W hk hkey hv)
  have P4 := hideIt (right_right k key v)
  obtain ⟨c, hcc⟩ : ∃ c : Nat, pickV cl 64 = (c : Int) := ⟨(pickV cl 64).toNat, by omega⟩
  obtain ⟨n, hnn⟩ : ∃ n : Nat, pickV mv 40 = (n : Int) := ⟨(pickV mv 40).toNat, by omega⟩
  rw [hcc] at P1 hc0 hc1
  rw [hnn] at P2 hm0 hm1
  have HMC := hideIt m
  have HI := hideIt hI
  have HN := hideIt hn
  have HD := hideIt hd
  obtain ⟨gt, hgt⟩ : ∃ g, w.heap.size = g := ⟨_, rfl⟩
  have hg := m.pg x0 hI
  have hbs := m.bs x0 c hI (by omega)
  subst hg
  clear h hcl hk hkey hv hmv hI hn hd m hcc hnn
  go_enter Tryz.func34, Tryz.ntmps34
  rw [hgt] at A0
  obtain ⟨FB, hFB⟩ : ∃ F, F = (As.blk gt #[.int .i64 cl, .int .i64 k, .int .i64 key, .int .i64 v, .int .i64 mv] 84 :: fr) := ⟨_, rfl⟩
  have HFB := hideIt hFB
  have HIN : Hid (∀ x : Wd, As.blk gt #[.int .i64 cl, .int .i64 k, .int .i64 key, .int .i64 v, .int .i64 mv] 84 ∈ x.as ++ FB) := fun x => by rw [HFB.out]; simp
  have A1 := hideIt (A0.out.perm (List.perm_middle (l₁ := x0.as)))
  rw [← hFB] at A1
  clear hFB A0
  go_wp2_with fail
  refine (P1.out _).mono ?_
  rintro e w1 ⟨rfl, rfl⟩
  generalize hW1 : w.alloc _ = w1 at A1 ⊢
  clear hW1 hgt
  have g4 := A1.out.cell (i := 0) rfl 4 (.slice (some ⟨x0.bg, 0, none⟩) 64 x0.bc) rfl
  rcases hbs with hb | ⟨⟨i, hb⟩, -, -⟩
  · have b0 := A1.out.rowCell (i := 1) rfl c (.int .i64 (-1)) (ints_get hb)
    have p1 := A1.out.cellIn (HIN.out x0) 1 (.int .i64 k) rfl
    have p2 := A1.out.cellIn (HIN.out x0) 2 (.int .i64 key) rfl
    have p3 := A1.out.cellIn (HIN.out x0) 3 (.int .i64 v) rfl
    have HB := hideIt hb
    clear hb
    go_wp2_with fail
    refine (P3.out _).mono ?_
    rintro e w2 ⟨rfl, hb⟩
    have A2 := hideIt (A1.out.below hb)
    clear hb A1 g4 b0 p1 p2 p3
    go_wp2_with fail
    refine (HMC.out.bg x0 c _ _ _ w2 FB (by omega) HI.out (by have := HD.out; omega) P4.out HB.out A2.out).mono ?_
    rintro e w3 ⟨⟨u, rfl⟩, x1, hI1, hn1, hd1, -, hM1⟩
    have HI1 := hideIt hI1
    have HN1 : Hid (x1.now ≤ x0.now) := by unfold Hid; omega
    have HD1 : Hid (x1.ds.length ≤ x0.ds.length + 1) := by unfold Hid; omega
    have A3 := hideIt hM1
    clear hI1 hn1 hd1 hM1 A2 HB
    have p4 := A3.out.cellIn (HIN.out x1) 4 (.int .i64 mv) rfl
    go_wp2_with fail
    refine (P2.out _).mono ?_
    rintro e w9 ⟨rfl, rfl⟩
    clear p4
    go_wp2
    go_loopw [6] (fun y wr => ∃ (j : Nat) (x : Wd), y = .int .i64 j ∧ j ≤ n + 1 ∧ Hid (x.now ≤ x0.now + (j : Int)) ∧ Hid (x.ds.length ≤ x0.ds.length + 1) ∧ Hid (Inv x) ∧ Hid (M w0 B wr (x.as ++ FB))) (fun i _ => (n + 1) - (intOf i).toNat)
    case atStart => exact ⟨0, x1, rfl, by omega, by unfold Hid; have := HN1.out; omega, HD1.out, HI1.out, A3.out⟩
    case round =>
      clear A3 HI1 HN1 HD1
      obtain ⟨j, x, rfl, hj, hnw, hnd, hI, hM⟩ := hrel
      have hg : Hid (x.gw = x0.gw) := HMC.out.pg x hI.out
      have g14 := hM.out.cell (i := 0) rfl 14 (.bool false) rfl
      have g4 := hM.out.cell (i := 0) rfl 4 (.slice (some ⟨x.bg, 0, none⟩) 64 x.bc) rfl
      rw [hg.out] at g14 g4
      by_cases hlt : j < n + 1
      · have hj1 : (j : Int) < 1 + (n : Int) := by omega
        rcases HMC.out.bs x c hI.out (by omega) with hb | ⟨⟨i, hb⟩, -, -⟩
        · have b0 := hM.out.rowCell (i := 1) rfl c (.int .i64 (-1)) (ints_get hb)
          clear hb
          go_wp2
          exact bodyPost_end (results_none Tryz.results34 _ _ _) rfl ⟨⟨_, rfl⟩, x, hI.out, by have := hnw.out; omega, hnd.out, by have h9 := hM.out; rw [HFB.out] at h9; exact (h9.perm (List.perm_middle (l₁ := x.as)).symm).sub (List.sublist_cons_self _ _)⟩
        · have b0 := hM.out.rowCell (i := 1) rfl c (.int .i64 i) (ints_get hb)
          have hi0 : (0 : Int) ≤ (i : Int) := by omega
          have CM := hideIt (HMC.out.mv x c i wr FB (by omega) hI.out (by have := hnw.out; have := HN.out; omega) hb hM.out)
          clear hM hb hI
          go_wp2_with fail
          refine CM.out.mono ?_
          rintro e w4 ⟨⟨u, rfl⟩, x', hI', hN', -, hM'⟩
          have HI2 := hideIt hI'
          have HM2 := hideIt hM'
          have HN2 : Hid (x'.now ≤ x0.now + ((j + 1 : Nat) : Int)) := by unfold Hid; have := hnw.out; have := hN'.now; omega
          have HD2 : Hid (x'.ds.length ≤ x0.ds.length + 1) := by unfold Hid; rw [hN'.nd]; exact hnd.out
          clear CM g14 g4 b0 hI' hM' hN' hg
          go_wp2
          go_roundw
          case rel => exact ⟨j + 1, x', by go_num, by omega, HN2.out, HD2.out, HI2.out, HM2.out⟩
          case measure => simp [intOf]; omega
      · have hj1 : ¬ ((j : Int) < 1 + (n : Int)) := by omega
        have hjn : (1 : Int) + (n : Int) ≤ (j : Int) := by omega
        go_wp2
        exact bodyPost_end (results_none Tryz.results34 _ _ _) rfl ⟨⟨_, rfl⟩, x, hI.out, by have := hnw.out; omega, hnd.out, by have h9 := hM.out; rw [HFB.out] at h9; exact (h9.perm (List.perm_middle (l₁ := x.as)).symm).sub (List.sublist_cons_self _ _)⟩
  · have b0 := A1.out.rowCell (i := 1) rfl c (.int .i64 i) (ints_get hb)
    have hi0 : (0 : Int) ≤ (i : Int) := by omega
    obtain ⟨x1, hx1⟩ : ∃ x1, x1 = x0 := ⟨_, rfl⟩
    have HI1 : Hid (Inv x1) := by rw [hx1]; exact HI.out
    have HN1 : Hid (x1.now ≤ x0.now) := by unfold Hid; rw [hx1]; omega
    have HD1 : Hid (x1.ds.length ≤ x0.ds.length + 1) := by unfold Hid; rw [hx1]; omega
    have A3 : Hid (M w0 B w1 (x1.as ++ FB)) := by rw [hx1]; exact A1.out
    clear hb A1 hx1
    have p4 := A3.out.cellIn (HIN.out x1) 4 (.int .i64 mv) rfl
    go_wp2_with fail
    refine (P2.out _).mono ?_
    rintro e w9 ⟨rfl, rfl⟩
    clear p4
    go_wp2
    go_loopw [6] (fun y wr => ∃ (j : Nat) (x : Wd), y = .int .i64 j ∧ j ≤ n + 1 ∧ Hid (x.now ≤ x0.now + (j : Int)) ∧ Hid (x.ds.length ≤ x0.ds.length + 1) ∧ Hid (Inv x) ∧ Hid (M w0 B wr (x.as ++ FB))) (fun i _ => (n + 1) - (intOf i).toNat)
    case atStart => exact ⟨0, x1, rfl, by omega, by unfold Hid; have := HN1.out; omega, HD1.out, HI1.out, A3.out⟩
    case round =>
      clear A3 HI1 HN1 HD1
      obtain ⟨j, x, rfl, hj, hnw, hnd, hI, hM⟩ := hrel
      have hg : Hid (x.gw = x0.gw) := HMC.out.pg x hI.out
      have g14 := hM.out.cell (i := 0) rfl 14 (.bool false) rfl
      have g4 := hM.out.cell (i := 0) rfl 4 (.slice (some ⟨x.bg, 0, none⟩) 64 x.bc) rfl
      rw [hg.out] at g14 g4
      by_cases hlt : j < n + 1
      · have hj1 : (j : Int) < 1 + (n : Int) := by omega
        rcases HMC.out.bs x c hI.out (by omega) with hb | ⟨⟨i, hb⟩, -, -⟩
        · have b0 := hM.out.rowCell (i := 1) rfl c (.int .i64 (-1)) (ints_get hb)
          clear hb
          go_wp2
          exact bodyPost_end (results_none Tryz.results34 _ _ _) rfl ⟨⟨_, rfl⟩, x, hI.out, by have := hnw.out; omega, hnd.out, by have h9 := hM.out; rw [HFB.out] at h9; exact (h9.perm (List.perm_middle (l₁ := x.as)).symm).sub (List.sublist_cons_self _ _)⟩
        · have b0 := hM.out.rowCell (i := 1) rfl c (.int .i64 i) (ints_get hb)
          have hi0 : (0 : Int) ≤ (i : Int) := by omega
          have CM := hideIt (HMC.out.mv x c i wr FB (by omega) hI.out (by have := hnw.out; have := HN.out; omega) hb hM.out)
          clear hM hb hI
          go_wp2_with fail
          refine CM.out.mono ?_
          rintro e w4 ⟨⟨u, rfl⟩, x', hI', hN', -, hM'⟩
          have HI2 := hideIt hI'
          have HM2 := hideIt hM'
          have HN2 : Hid (x'.now ≤ x0.now + ((j + 1 : Nat) : Int)) := by unfold Hid; have := hnw.out; have := hN'.now; omega
          have HD2 : Hid (x'.ds.length ≤ x0.ds.length + 1) := by unfold Hid; rw [hN'.nd]; exact hnd.out
          clear CM g14 g4 b0 hI' hM' hN' hg
          go_wp2
          go_roundw
          case rel => exact ⟨j + 1, x', by go_num, by omega, HN2.out, HD2.out, HI2.out, HM2.out⟩
          case measure => simp [intOf]; omega
      · have hj1 : ¬ ((j : Int) < 1 + (n : Int)) := by omega
        have hjn : (1 : Int) + (n : Int) ≤ (j : Int) := by omega
        go_wp2
        exact bodyPost_end (results_none Tryz.results34 _ _ _) rfl ⟨⟨_, rfl⟩, x, hI.out, by have := hnw.out; omega, hnd.out, by have h9 := hM.out; rw [HFB.out] at h9; exact (h9.perm (List.perm_middle (l₁ := x.as)).symm).sub (List.sublist_cons_self _ _)⟩
def Wd.first (gw tg tc ug uc vg vc bg bc : Nat) : Wd := ⟨gw, tg, tc, ug, uc, vg, vc, bg, bc, .slice none 0 0, firstB :: List.replicate 63 ⟨#[]⟩, true :: List.replicate 63 false, List.replicate 64 0, List.replicate 64 (-1), 0, 0, false, false, false, .slice none 0 0, .slice none 0 0, []⟩
theorem fresh_wd (w : World) : Calls Tryz.prog 15 #[] w fun e w' => e = .returned (.pointer (some ⟨w.heap.size, 0, none⟩)) ∧ ∃ tg tc ug uc vg vc bg bc, M w w.heap.size w' ((Wd.first w.heap.size tg tc ug uc vg vc bg bc).as ++ []) := by
  refine (fresh_any w).mono ?_
  rintro e w' ⟨tv, uv, vv, bv, rfl, h⟩
  obtain ⟨tg, tc, rfl⟩ := As.form (h.get (i := 1) rfl) (by omega)
  obtain ⟨ug, uc, rfl⟩ := As.form (h.get (i := 2) rfl) (by omega)
  obtain ⟨vg, vc, rfl⟩ := As.form (h.get (i := 3) rfl) (by omega)
  obtain ⟨bg, bc, rfl⟩ := As.form (h.get (i := 4) rfl) (by omega)
  refine ⟨rfl, tg, tc, ug, uc, vg, vc, bg, bc, ?_⟩
  have h2 := M.rowNil (e := 40) (z := 1) h
  have e1 : (Wd.first w.heap.size tg tc ug uc vg vc bg bc).as ++ [] = [.blk w.heap.size (WC (.slice (some ⟨tg, 0, none⟩) 64 tc) (.slice (some ⟨ug, 0, none⟩) 64 uc) (.slice (some ⟨vg, 0, none⟩) 64 vc) (.slice none 0 0) (.slice (some ⟨bg, 0, none⟩) 64 bc) 0 0 false false false false false (.slice none 0 0) (.slice none 0 0) false) 34, .row 3 1 (.slice (some ⟨bg, 0, none⟩) 64 bc) 64 (List.replicate 64 (.int .i64 (-1))), .row 40 1 (.slice none 0 0) 0 [], .row 9 1 (.slice (some ⟨tg, 0, none⟩) 64 tc) 64 (.string firstB :: List.replicate 63 (.string ⟨#[]⟩)), .row 4 1 (.slice (some ⟨ug, 0, none⟩) 64 uc) 64 (.bool true :: List.replicate 63 (.bool false)), .row 3 1 (.slice (some ⟨vg, 0, none⟩) 64 vc) 64 (List.replicate 64 (.int .i64 0))] := by
    simp [Wd.as, Wd.hd, Wd.first, ints, strs, bools]
  rw [e1]
  refine h2.perm ?_
  refine List.Perm.cons _ ?_
  refine (List.perm_append_comm (l₁ := [_, _, _, _]) (l₂ := [_])).symm.trans ?_
  exact List.Perm.refl _
structure Tn where
  cl : Int
  k : Int
  key : Int
  v : Int
  mv : Int
structure Tn.ok (t : Tn) : Prop where
  cl : I64 t.cl
  k : I64 t.k
  key : I64 t.key
  v : I64 t.v
  mv : I64 t.mv
def TRd (w : World) (v : Value) (ts : List Tn) : Prop :=
  ∃ ao cap, v = .slice ao ts.length cap ∧ (0 < ts.length → ∃ b off, ao = some ⟨b, off, none⟩ ∧ ∀ j t, ts[j]? = some t → w.cell? ⟨b, off + j * 5, none⟩ = some (.int .i64 t.cl) ∧ w.cell? ⟨b, off + j * 5 + 1, none⟩ = some (.int .i64 t.k) ∧ w.cell? ⟨b, off + j * 5 + 2, none⟩ = some (.int .i64 t.key) ∧ w.cell? ⟨b, off + j * 5 + 3, none⟩ = some (.int .i64 t.v) ∧ w.cell? ⟨b, off + j * 5 + 4, none⟩ = some (.int .i64 t.mv))
theorem TRd.below {w w' : World} {v : Value} {ts : List Tn} (h : TRd w v ts) (hb : Below w.heap.size w w') : TRd w' v ts := by
  obtain ⟨ao, cap, rfl, h⟩ := h
  refine ⟨ao, cap, rfl, fun hp => ?_⟩
  obtain ⟨b, off, rfl, k⟩ := h hp
  refine ⟨b, off, rfl, fun j t hj => ?_⟩
  obtain ⟨h0, h1, h2, h3, h4⟩ := k j t hj
  exact ⟨cell_below hb _ _ h0, cell_below hb _ _ h1, cell_below hb _ _ h2, cell_below hb _ _ h3, cell_below hb _ _ h4⟩
def tdo (kd key v : Int) (K V : List Int) : List Int × List Int :=
  if key ∈ K then
    if kd = 2 then (K, V.set (K.idxOf key) v)
    else if kd = 3 then ((K.set (K.idxOf key) (K[K.length - 1]?.getD 0)).take (K.length - 1), (V.set (K.idxOf key) (V[K.length - 1]?.getD 0)).take (K.length - 1))
    else (K, V)
  else if kd = 2 then (K ++ [key], V ++ [v]) else (K, V)
theorem idx_of_first {K : List Int} {key : Int} : ∀ {i : Nat}, K[i]? = some key → (∀ j, j < i → K[j]?.getD 0 ≠ key) → K.idxOf key = i := by
  induction K with
  | nil => intro i h1 _; simp at h1
  | cons a K ih =>
    intro i h1 h2
    by_cases ha : a = key
    · subst ha
      cases i with
      | zero => simp
      | succ i => exact absurd rfl (h2 0 (by omega))
    · cases i with
      | zero => simp at h1; exact absurd h1 ha
      | succ i =>
        rw [List.idxOf_cons, show (a == key) = false by simp [ha]]
        show K.idxOf key + 1 = i + 1
        rw [ih (i := i) (by simpa using h1) (fun j hj => by have := h2 (j + 1) (by omega); simpa using this)]
theorem ints_set (L : List Int) (i : Nat) (x : Int) : (ints L).set i (.int .i64 x) = ints (L.set i x) := by simp [ints, List.map_set]
set_option maxRecDepth 100000 in
set_option maxHeartbeats 1600000 in
theorem do_set (gt n i : Nat) (kv vv : Value) (K V : List Int) (key v : Int) (fr : List As) (w0 w : World) (B : Nat) (hn : n ≤ 1000000000) (hK : K.length = n) (hV : V.length = n) (h1 : K[i]? = some key) (h2 : ∀ j, j < i → K[j]?.getD 0 ≠ key)
    (h : M w0 B w (.blk gt #[kv, vv] 55 :: .row 3 1 kv n (ints K) :: .row 3 1 vv n (ints V) :: fr)) :
    Calls Tryz.prog 17 #[.pointer (some ⟨gt, 0, none⟩), .agg #[.int .i64 2, .int .i64 key, .int .i64 v]] w fun e w' => (∃ u, e = .returned u) ∧
      M w0 B w' (.blk gt #[kv, vv] 55 :: .row 3 1 kv n (ints K) :: .row 3 1 vv n (ints (V.set i v)) :: fr) := by
  have hi : i < n := by rw [← hK]; exact (List.getElem?_eq_some_iff.1 h1).1
  obtain ⟨gv, cv, rfl⟩ := As.form (h.get (i := 2) rfl) (by omega)
  have hr : As.holds w B (.row 3 1 kv n (ints K)) := h.get (i := 1) rfl
  rw [← hK] at hr
  have HR := hideIt (owns_rd hr)
  have A0 := hideIt (h.alloc #[.int .i64 2, .int .i64 key, .int .i64 v] 36)
  have C := hideIt (find_any gt kv K key (w.alloc (.cells #[.int .i64 2, .int .i64 key, .int .i64 v] 36)) (A0.out.cell (i := 1) rfl 0 kv rfl) (owns_rd (As.holds.own (by have := A0.out.get (i := 2) rfl; rw [← hK] at this; exact this))) (by omega))
  have H1 := hideIt h1
  have H2 := hideIt h2
  have hi0 : (0 : Int) ≤ (i : Int) := by omega
  have hi1 : (i : Int) < (n : Int) := by omega
  clear h hr h1 h2 hK hV
  go_enter Tryz.func17, Tryz.ntmps17
  go_wp2_with fail
  refine C.out.mono ?_
  rintro e w' ⟨r, rfl, hF, rfl⟩
  have hr : r = (i : Int) := by
    rcases hF with ⟨-, hno⟩ | ⟨j, rfl, j1, j2⟩
    · exact absurd (List.mem_of_getElem? H1.out) hno
    · rw [← idx_of_first j1 j2, ← idx_of_first H1.out H2.out]
  subst hr
  clear C hF
  obtain ⟨go, hgo⟩ : ∃ g, w.heap.size = g := ⟨_, rfl⟩
  rw [hgo] at A0 ⊢
  have o0 := A0.out.cell (i := 0) rfl 0 (.int .i64 2) rfl
  have o1 := A0.out.cell (i := 0) rfl 1 (.int .i64 key) rfl
  have o2 := A0.out.cell (i := 0) rfl 2 (.int .i64 v) rfl
  have t1 := A0.out.cell (i := 1) rfl 1 (.slice (some ⟨gv, 0, none⟩) n cv) rfl
  have S := hideIt (A0.out.storeRow (i := 3) (j := i) rfl (.int .i64 v))
  have fz := World.ownsRow.frozenAt (A0.out.get (i := 3) rfl).own i
  have cz := A0.out.rowCell (i := 3) rfl i _ (ints_at' V i (by have := (A0.out.get (i := 3) rfl).own.1; simp [len_ints] at this; omega))
  clear hgo A0
  go_wp2
  go_region
  all_goals
    go_wp2
    refine bodyPost_end (results_none Tryz.results17 _ _ _) rfl ⟨⟨_, rfl⟩, ?_⟩
    rw [← ints_set]
    exact (S.out.sub (List.sublist_cons_self _ _)).drew
set_option maxRecDepth 100000 in
set_option maxHeartbeats 3200000 in
theorem do_add (gt n : Nat) (kv vv : Value) (K V : List Int) (key v : Int) (fr : List As) (w0 w : World) (B : Nat) (hn : n ≤ 1000000000) (hK : K.length = n) (hV : V.length = n) (h1 : key ∉ K)
    (h : M w0 B w (.blk gt #[kv, vv] 55 :: .row 3 1 kv n (ints K) :: .row 3 1 vv n (ints V) :: fr)) :
    Calls Tryz.prog 17 #[.pointer (some ⟨gt, 0, none⟩), .agg #[.int .i64 2, .int .i64 key, .int .i64 v]] w fun e w' => (∃ u, e = .returned u) ∧ ∃ kv' vv',
      M w0 B w' (.blk gt #[kv', vv'] 55 :: .row 3 1 kv' (n + 1) (ints (K ++ [key])) :: .row 3 1 vv' (n + 1) (ints (V ++ [v])) :: fr) := by
  obtain ⟨i0, hi0, hz0, hz1, hz2⟩ := info_parts infoInt
  obtain ⟨ka, ck, rfl⟩ := As.form0 (h.get (i := 1) rfl)
  obtain ⟨va, cv, rfl⟩ := As.form0 (h.get (i := 2) rfl)
  have A0 := hideIt (h.alloc #[.int .i64 2, .int .i64 key, .int .i64 v] 36)
  have C := hideIt (find_any gt (.slice ka n ck) K key (w.alloc (.cells #[.int .i64 2, .int .i64 key, .int .i64 v] 36)) (A0.out.cell (i := 1) rfl 0 (.slice ka n ck) rfl) (owns_rd (As.holds.own (by have := A0.out.get (i := 2) rfl; rw [← hK] at this ⊢; exact this))) (by omega))
  have H1 := hideIt h1
  clear h h1 hK hV
  go_enter Tryz.func17, Tryz.ntmps17
  go_wp2_with fail
  refine C.out.mono ?_
  rintro e w' ⟨r, rfl, hF, rfl⟩
  have hr : r = -1 := by
    rcases hF with ⟨e, -⟩ | ⟨j, rfl, j1, j2⟩
    · exact e
    · exact absurd (List.mem_of_getElem? j1) H1.out
  subst hr
  clear C hF
  obtain ⟨go, hgo⟩ : ∃ g, w.heap.size = g := ⟨_, rfl⟩
  rw [hgo] at A0 ⊢
  obtain ⟨w1, hw1⟩ : ∃ x, w.alloc (.cells #[.int .i64 2, .int .i64 key, .int .i64 v] 36) = x := ⟨_, rfl⟩
  rw [hw1] at A0 ⊢
  clear hw1
  have o0 := A0.out.cell (i := 0) rfl 0 (.int .i64 2) rfl
  have o1 := A0.out.cell (i := 0) rfl 1 (.int .i64 key) rfl
  have t0 := A0.out.cell (i := 1) rfl 0 (.slice ka n ck) rfl
  have f0 := A0.out.free (i := 1) rfl 0
  have hlt := A0.out.lt (i := 1) rfl
  clear hgo
  go_upto_region 5 with fail
  go_cut [] (fun wy => ∃ kv', Hid (M w0 B wy (.blk go #[.int .i64 2, .int .i64 key, .int .i64 v] 36 :: .blk gt #[kv', .slice va n cv] 55 :: .row 3 1 kv' (n + 1) (ints (K ++ [key])) :: .row 3 1 (.slice va n cv) n (ints V) :: fr)))
  case first =>
    go_region_law (refine step_append_lies _ rfl _ _ 22 rfl B 3 i0 (.int .i64 0) 1 8 Tryz.underlying22 hi0 hz0 hz1 hz2 rfl (by decide) _ n (ints K) rfl (World.ownsRow.alloc (A0.out.get (i := 2) rfl) _) ⟨_, 0, none⟩ 1 1 [.int .i64 key] rfl rfl (by have := news_one w1 (.int .i64 key) 3; simpa using this) (by simp [Value.oneCell']) (by omega) (by unfold maxLen; omega) (by omega) (by have := A0.out.sz; simp at this ⊢; omega) _ rfl ?_; intro g1 cap1 w5 hown hgrow hat hlt1; rw [← ints_snoc] at hown; have hm := (A0.out.allocd _).drew.lies (i := 2) rfl hown hgrow hat; clear o0 o1 t0 f0 hlt hown hgrow hat; have t0 := hm.cell (i := 1) rfl 0 (.slice ka n ck) rfl; have f0 := hm.free (i := 1) rfl 0; have hlt := hm.lt (i := 1) rfl; have H2 := hideIt (hm.store (i := 1) (j := 0) rfl (.slice (some ⟨g1, 0, none⟩) (n + 1) cap1) rfl); clear hm)
    all_goals
      go_wp2
      go_meet
      case rel => exact ⟨_, H2.out⟩
  case rest =>
    obtain ⟨kv', hM⟩ := hcut
    clear A0 o0 o1 t0 f0 hlt
    have o2 := hM.out.cell (i := 0) rfl 2 (.int .i64 v) rfl
    have t1 := hM.out.cell (i := 1) rfl 1 (.slice va n cv) rfl
    have f1 := hM.out.free (i := 1) rfl 1
    have hlt := hM.out.lt (i := 1) rfl
    go_upto_region 6 with fail
    go_region_law (refine step_append_lies _ rfl _ _ 22 rfl B 3 i0 (.int .i64 0) 1 8 Tryz.underlying22 hi0 hz0 hz1 hz2 rfl (by decide) _ n (ints V) rfl (World.ownsRow.alloc (hM.out.get (i := 3) rfl) _) ⟨_, 0, none⟩ 1 1 [.int .i64 v] rfl rfl (by have := news_one wc (.int .i64 v) 3; simpa using this) (by simp [Value.oneCell']) (by omega) (by unfold maxLen; omega) (by omega) (by have := hM.out.sz; simp at this ⊢; omega) _ rfl ?_; intro g2 cap2 w6 hown hgrow hat hlt1; rw [← ints_snoc] at hown; have hm := (hM.out.allocd _).drew.lies (i := 3) rfl hown hgrow hat; clear o2 t1 f1 hlt hown hgrow hat; have t1 := hm.cell (i := 1) rfl 1 (.slice va n cv) rfl; have f1 := hm.free (i := 1) rfl 1; have hlt := hm.lt (i := 1) rfl; have H2 := hideIt (hm.store (i := 1) (j := 1) rfl (.slice (some ⟨g2, 0, none⟩) (n + 1) cap2) rfl); clear hm)
    all_goals
      go_wp2
      exact bodyPost_end (results_none Tryz.results17 _ _ _) rfl ⟨⟨_, rfl⟩, _, _, H2.out.sub (List.sublist_cons_self _ _)⟩
theorem M.pop {w0 w : World} {B i g m cap : Nat} {l : List As} {L : List Int} (h : M w0 B w l) (hi : l[i]? = some (.row 3 1 (.slice (some ⟨g, 0, none⟩) (m + 1) cap) (m + 1) (ints L))) (hL : L.length = m + 1) : M w0 B w (l.set i (.row 3 1 (.slice (some ⟨g, 0, none⟩) m cap) m (ints (L.take m)))) := by
  refine h.upd hi ⟨rfl, rfl, rfl, Nat.le_refl _, fun _ _ _ => rfl⟩ ?_ (Or.inl rfl)
  have hr := (h.get hi).own
  have e : ints L = ints (L.take m) ++ ints (L.drop m) := by unfold ints; rw [← List.map_append, List.take_append_drop]
  rw [e] at hr
  exact ownsRow_pop (by rw [len_ints, List.length_take]; omega) hr
set_option maxRecDepth 100000 in
set_option maxHeartbeats 3200000 in
theorem do_drop (gt m i : Nat) (kv vv : Value) (K V : List Int) (key v : Int) (fr : List As) (w0 w : World) (B : Nat) (hn : m < 1000000000) (hK : K.length = m + 1) (hV : V.length = m + 1) (h1 : K[i]? = some key) (h2 : ∀ j, j < i → K[j]?.getD 0 ≠ key)
    (h : M w0 B w (.blk gt #[kv, vv] 55 :: .row 3 1 kv (m + 1) (ints K) :: .row 3 1 vv (m + 1) (ints V) :: fr)) :
    Calls Tryz.prog 17 #[.pointer (some ⟨gt, 0, none⟩), .agg #[.int .i64 3, .int .i64 key, .int .i64 v]] w fun e w' => (∃ u, e = .returned u) ∧ ∃ kv' vv',
      M w0 B w' (.blk gt #[kv', vv'] 55 :: .row 3 1 kv' m (ints ((K.set i (K[m]?.getD 0)).take m)) :: .row 3 1 vv' m (ints ((V.set i (V[m]?.getD 0)).take m)) :: fr) := by
  have hi : i < m + 1 := by rw [← hK]; exact (List.getElem?_eq_some_iff.1 h1).1
  obtain ⟨gk, ck, rfl⟩ := As.form (h.get (i := 1) rfl) (by omega)
  obtain ⟨gv, cv, rfl⟩ := As.form (h.get (i := 2) rfl) (by omega)
  have A0 := hideIt (h.alloc #[.int .i64 3, .int .i64 key, .int .i64 v] 36)
  have C := hideIt (find_any gt (.slice (some ⟨gk, 0, none⟩) (m + 1) ck) K key (w.alloc (.cells #[.int .i64 3, .int .i64 key, .int .i64 v] 36)) (A0.out.cell (i := 1) rfl 0 (.slice (some ⟨gk, 0, none⟩) (m + 1) ck) rfl) (owns_rd (As.holds.own (by have := A0.out.get (i := 2) rfl; rw [← hK] at this ⊢; exact this))) (by omega))
  have H1 := hideIt h1
  have H2 := hideIt h2
  have hi0 : (0 : Int) ≤ (i : Int) := by omega
  have hi1 : (i : Int) < ((m + 1 : Nat) : Int) := by omega
  have hm0 : (0 : Int) ≤ (m : Int) := by omega
  have hm1 : (m : Int) < ((m + 1 : Nat) : Int) := by omega
  have hms : ((m + 1 : Nat) : Int) - 1 = (m : Int) := by omega
  have HK := hideIt hK
  have HV := hideIt hV
  clear h h1 h2 hK hV
  go_enter Tryz.func17, Tryz.ntmps17
  go_wp2_with fail
  refine C.out.mono ?_
  rintro e w' ⟨r, rfl, hF, rfl⟩
  have hr : r = (i : Int) := by
    rcases hF with ⟨-, hno⟩ | ⟨j, rfl, j1, j2⟩
    · exact absurd (List.mem_of_getElem? H1.out) hno
    · rw [← idx_of_first j1 j2, ← idx_of_first H1.out H2.out]
  subst hr
  clear C hF
  obtain ⟨go, hgo⟩ : ∃ g, w.heap.size = g := ⟨_, rfl⟩
  rw [hgo] at A0 ⊢
  obtain ⟨w1, hw1⟩ : ∃ x, w.alloc (.cells #[.int .i64 3, .int .i64 key, .int .i64 v] 36) = x := ⟨_, rfl⟩
  rw [hw1] at A0 ⊢
  clear hw1 hgo
  have o0 := A0.out.cell (i := 0) rfl 0 (.int .i64 3) rfl
  have t0 := A0.out.cell (i := 1) rfl 0 (.slice (some ⟨gk, 0, none⟩) (m + 1) ck) rfl
  have km := A0.out.rowCell (i := 2) rfl m _ (ints_at' K m (by rw [HK.out]; omega))
  have fk := A0.out.rowFree (i := 2) rfl i
  have ki := A0.out.rowCell (i := 2) rfl i _ (ints_at' K i (by rw [HK.out]; omega))
  have S1 := hideIt (A0.out.storeRow (i := 2) (j := i) rfl (.int .i64 (K[m]?.getD 0)))
  go_upto_region 9 with fail
  go_cut [5] (fun u wy => u = .int .i64 (m : Int) ∧ Hid (M w0 B wy (.blk go #[.int .i64 3, .int .i64 key, .int .i64 v] 36 :: .blk gt #[.slice (some ⟨gk, 0, none⟩) (m + 1) ck, .slice (some ⟨gv, 0, none⟩) (m + 1) cv] 55 :: .row 3 1 (.slice (some ⟨gk, 0, none⟩) (m + 1) ck) (m + 1) (ints (K.set i (K[m]?.getD 0))) :: .row 3 1 (.slice (some ⟨gv, 0, none⟩) (m + 1) cv) (m + 1) (ints V) :: fr)))
  case first =>
    go_region
    all_goals
      go_wp2
      go_meet
      case rel => exact ⟨by go_num, by unfold Hid; rw [← ints_set]; exact S1.out.drew⟩
  case rest =>
    obtain ⟨rfl, hM⟩ := hcut
    clear A0 S1 o0 t0 km fk ki
    have t1 := hM.out.cell (i := 1) rfl 1 (.slice (some ⟨gv, 0, none⟩) (m + 1) cv) rfl
    have vm := hM.out.rowCell (i := 3) rfl m _ (ints_at' V m (by rw [HV.out]; omega))
    have fv := hM.out.rowFree (i := 3) rfl i
    have vi := hM.out.rowCell (i := 3) rfl i _ (ints_at' V i (by rw [HV.out]; omega))
    have S2 := hideIt (hM.out.storeRow (i := 3) (j := i) rfl (.int .i64 (V[m]?.getD 0)))
    go_upto_region 10 with fail
    go_cut [5] (fun u wy => u = .int .i64 (m : Int) ∧ Hid (M w0 B wy (.blk go #[.int .i64 3, .int .i64 key, .int .i64 v] 36 :: .blk gt #[.slice (some ⟨gk, 0, none⟩) (m + 1) ck, .slice (some ⟨gv, 0, none⟩) (m + 1) cv] 55 :: .row 3 1 (.slice (some ⟨gk, 0, none⟩) (m + 1) ck) (m + 1) (ints (K.set i (K[m]?.getD 0))) :: .row 3 1 (.slice (some ⟨gv, 0, none⟩) (m + 1) cv) (m + 1) (ints (V.set i (V[m]?.getD 0))) :: fr)))
    case first =>
      go_region
      all_goals
        go_wp2
        go_meet
        case rel => exact ⟨rfl, by unfold Hid; rw [← ints_set V]; exact S2.out.drew⟩
    case rest =>
      obtain ⟨rfl, hN⟩ := hcut
      clear hM S2 t1 vm fv vi
      have P1 := (hN.out.pop (i := 2) rfl (by rw [List.length_set]; exact HK.out)).pop (i := 3) rfl (by rw [List.length_set]; exact HV.out)
      have Q1 := hideIt ((P1.store (i := 1) (j := 0) rfl (.slice (some ⟨gk, 0, none⟩) m ck) rfl).store (i := 1) (j := 1) rfl (.slice (some ⟨gv, 0, none⟩) m cv) rfl)
      have t0 := hN.out.cell (i := 1) rfl 0 (.slice (some ⟨gk, 0, none⟩) (m + 1) ck) rfl
      have t1 := hN.out.cell (i := 1) rfl 1 (.slice (some ⟨gv, 0, none⟩) (m + 1) cv) rfl
      have f0 := hN.out.free (i := 1) rfl 0
      have f1 := hN.out.free (i := 1) rfl 1
      have c1 : m ≤ ck := by
        rcases (hN.out.get (i := 2) rfl).own.2 with ⟨h, -⟩ | ⟨g, cap, cur, h, -, -, h3, -⟩
        · cases h
        · cases h; omega
      have c2 : m ≤ cv := by
        rcases (hN.out.get (i := 3) rfl).own.2 with ⟨h, -⟩ | ⟨g, cap, cur, h, -, -, h3, -⟩
        · cases h
        · cases h; omega
      clear P1 hN
      go_wp2
      exact bodyPost_end (results_none Tryz.results17 _ _ _) rfl ⟨⟨_, rfl⟩, _, _, Q1.out.sub (List.sublist_cons_self _ _)⟩
set_option maxRecDepth 100000 in
set_option maxHeartbeats 1600000 in
theorem do_none (gt n : Nat) (kv vv : Value) (K V : List Int) (kd key v : Int) (fr : List As) (w0 w : World) (B : Nat) (hn : n ≤ 1000000000) (hK : K.length = n) (h1 : kd ≠ 2) (h2 : kd ≠ 3 ∨ key ∉ K)
    (h : M w0 B w (.blk gt #[kv, vv] 55 :: .row 3 1 kv n (ints K) :: .row 3 1 vv n (ints V) :: fr)) :
    Calls Tryz.prog 17 #[.pointer (some ⟨gt, 0, none⟩), .agg #[.int .i64 kd, .int .i64 key, .int .i64 v]] w fun e w' => (∃ u, e = .returned u) ∧ M w0 B w' (.blk gt #[kv, vv] 55 :: .row 3 1 kv n (ints K) :: .row 3 1 vv n (ints V) :: fr) := by
  have A0 := hideIt (h.alloc #[.int .i64 kd, .int .i64 key, .int .i64 v] 36)
  have C := hideIt (find_any gt kv K key (w.alloc (.cells #[.int .i64 kd, .int .i64 key, .int .i64 v] 36)) (A0.out.cell (i := 1) rfl 0 kv rfl) (owns_rd (As.holds.own (by have := A0.out.get (i := 2) rfl; rw [← hK] at this; exact this))) (by omega))
  have hk2 : (kd == 2) = false := by simp [h1]
  clear h h1 hK
  go_enter Tryz.func17, Tryz.ntmps17
  go_wp2_with fail
  refine C.out.mono ?_
  rintro e w' ⟨r, rfl, hF, rfl⟩
  have o0 := A0.out.cell (i := 0) rfl 0 (.int .i64 kd) rfl
  clear C
  by_cases h3 : kd = 3
  · have hr : r = -1 := by
      rcases hF with ⟨e, -⟩ | ⟨j, rfl, j1, j2⟩
      · exact e
      · rcases h2 with h2 | h2
        · exact absurd h3 h2
        · exact absurd (List.mem_of_getElem? j1) h2
    subst hr
    have hk3 : (kd == 3) = true := by simp [h3]
    clear hF h2 h3
    go_wp2
    exact bodyPost_end (results_none Tryz.results17 _ _ _) rfl ⟨⟨_, rfl⟩, A0.out.sub (List.sublist_cons_self _ _)⟩
  · have hk3 : (kd == 3) = false := by simp [h3]
    clear hF h2 h3
    go_wp2
    exact bodyPost_end (results_none Tryz.results17 _ _ _) rfl ⟨⟨_, rfl⟩, A0.out.sub (List.sublist_cons_self _ _)⟩
structure Dn where
  t : Int
  k : Int
  key : Int
  v : Int
def tAt (l : List Dn) (i : Nat) : Int := (l[i]?.map Dn.t).getD 0
def seg2 (l : List Dn) (a b : Nat) : List Dn := (l.take b).drop a
def Srt (l : List Dn) : Prop := l.Pairwise fun a b => a.t ≤ b.t
def Blk (W : Nat) (l : List Dn) : Prop := ∀ q a b, q * W ≤ a → a < b → b < (q + 1) * W → b < l.length → tAt l a ≤ tAt l b
theorem seg2_succ (l : List Dn) (a b : Nat) (d : Dn) (hab : a ≤ b) (h : l[b]? = some d) : seg2 l a (b + 1) = seg2 l a b ++ [d] := by
  obtain ⟨hl, he⟩ := List.getElem?_eq_some_iff.1 h
  unfold seg2
  rw [List.take_add_one, h, Option.toList_some, List.drop_append_of_le_length (by rw [List.length_take]; omega)]
theorem seg2_nil (l : List Dn) (a : Nat) : seg2 l a a = [] := by unfold seg2; simp
theorem seg2_app (l : List Dn) (a b c : Nat) (hab : a ≤ b) (hbc : b ≤ c) : seg2 l a b ++ seg2 l b c = seg2 l a c := by
  unfold seg2
  rw [List.drop_take, List.drop_take, List.drop_take, show c - a = (b - a) + (c - b) by omega, List.take_add, List.drop_drop, show a + (b - a) = b by omega]
theorem tAt_get {l : List Dn} {i : Nat} {d : Dn} (h : l[i]? = some d) : tAt l i = d.t := by unfold tAt; rw [h]; rfl
theorem len_seg2 (l : List Dn) (a b : Nat) : (seg2 l a b).length = min b l.length - a := by unfold seg2; simp
structure Mrg (l : List Dn) (W fr i j : Nat) (mm : List Dn) : Prop where
  pm : mm.Perm (seg2 l fr i ++ seg2 l (fr + W) j)
  so : Srt mm
  i0 : fr ≤ i
  i1 : i ≤ fr + W
  j0 : fr + W ≤ j
  j1 : j ≤ fr + 2 * W
  hi : i < fr + W → i < l.length → ∀ x ∈ mm, x.t ≤ tAt l i
  hj : j < fr + 2 * W → j < l.length → ∀ x ∈ mm, x.t ≤ tAt l j
theorem Mrg.start (l : List Dn) (W fr : Nat) : Mrg l W fr fr (fr + W) [] :=
  ⟨by rw [seg2_nil, seg2_nil]; exact .refl _, .nil, Nat.le_refl _, by omega, Nat.le_refl _, by omega, fun _ _ x hx => (List.not_mem_nil hx).elim, fun _ _ x hx => (List.not_mem_nil hx).elim⟩
theorem srt_snoc {mm : List Dn} {d : Dn} (h : Srt mm) (h2 : ∀ x ∈ mm, x.t ≤ d.t) : Srt (mm ++ [d]) :=
  List.pairwise_append.2 ⟨h, List.pairwise_singleton _ _, fun a ha b hb => by rcases List.mem_singleton.1 hb with rfl; exact h2 a ha⟩
theorem Mrg.takeI {l : List Dn} {W q i j : Nat} {mm : List Dn} {d : Dn} (h : Mrg l W (q * (2 * W)) i j mm) (hB : Blk W l) (hi : i < q * (2 * W) + W) (hd : l[i]? = some d) (hle : j < q * (2 * W) + 2 * W → j < l.length → d.t ≤ tAt l j) : Mrg l W (q * (2 * W)) (i + 1) j (mm ++ [d]) := by
  have hl := (List.getElem?_eq_some_iff.1 hd).1
  have ht := tAt_get hd
  have i0 := h.i0
  refine ⟨?_, srt_snoc h.so (by rw [← ht]; exact h.hi hi hl), by omega, by omega, h.j0, h.j1, ?_, ?_⟩
  · rw [seg2_succ _ _ _ d h.i0 hd]
    refine (h.pm.append_right [d]).trans ?_
    rw [List.append_assoc, List.append_assoc]
    exact List.Perm.append_left _ List.perm_append_comm
  · intro h1 h2 x hx
    have hn : tAt l i ≤ tAt l (i + 1) := hB (2 * q) i (i + 1) (by rw [show 2 * q * W = q * (2 * W) by rw [Nat.mul_comm 2 q, Nat.mul_assoc]]; omega) (by omega) (by rw [show (2 * q + 1) * W = q * (2 * W) + W by rw [Nat.add_mul, Nat.mul_comm 2 q, Nat.mul_assoc, Nat.one_mul]]; omega) h2
    rcases List.mem_append.1 hx with hx | hx
    · exact Int.le_trans (h.hi hi hl x hx) hn
    · rcases List.mem_singleton.1 hx with rfl
      rw [← ht]; exact hn
  · intro h1 h2 x hx
    rcases List.mem_append.1 hx with hx | hx
    · exact h.hj h1 h2 x hx
    · rcases List.mem_singleton.1 hx with rfl
      exact hle h1 h2
theorem Mrg.takeJ {l : List Dn} {W q i j : Nat} {mm : List Dn} {d : Dn} (h : Mrg l W (q * (2 * W)) i j mm) (hB : Blk W l) (hj : j < q * (2 * W) + 2 * W) (hd : l[j]? = some d) (hle : i < q * (2 * W) + W → i < l.length → d.t ≤ tAt l i) : Mrg l W (q * (2 * W)) i (j + 1) (mm ++ [d]) := by
  have hl := (List.getElem?_eq_some_iff.1 hd).1
  have ht := tAt_get hd
  have j0 := h.j0
  refine ⟨?_, srt_snoc h.so (by rw [← ht]; exact h.hj hj hl), h.i0, h.i1, by omega, by omega, ?_, ?_⟩
  · rw [seg2_succ _ _ _ d h.j0 hd, ← List.append_assoc]
    exact h.pm.append_right [d]
  · intro h1 h2 x hx
    rcases List.mem_append.1 hx with hx | hx
    · exact h.hi h1 h2 x hx
    · rcases List.mem_singleton.1 hx with rfl
      exact hle h1 h2
  · intro h1 h2 x hx
    have hn : tAt l j ≤ tAt l (j + 1) := hB (2 * q + 1) j (j + 1) (by rw [show (2 * q + 1) * W = q * (2 * W) + W by rw [Nat.add_mul, Nat.mul_comm 2 q, Nat.mul_assoc, Nat.one_mul]]; omega) (by omega) (by rw [show (2 * q + 1 + 1) * W = q * (2 * W) + 2 * W by rw [Nat.add_assoc, Nat.add_mul, Nat.mul_comm 2 q, Nat.mul_assoc]]; omega) h2
    rcases List.mem_append.1 hx with hx | hx
    · exact Int.le_trans (h.hj hj hl x hx) hn
    · rcases List.mem_singleton.1 hx with rfl
      rw [← ht]; exact hn
structure Mds (l : List Dn) (W q : Nat) (out : List Dn) : Prop where
  pm : out.Perm (l.take (q * (2 * W)))
  bl : Blk (2 * W) out
theorem Mds.start (l : List Dn) (W : Nat) : Mds l W 0 [] := ⟨by simp, fun _ _ _ _ _ _ h => by simp at h⟩
theorem srt_at {mm : List Dn} (h : Srt mm) (a b : Nat) (hab : a < b) (hb : b < mm.length) : tAt mm a ≤ tAt mm b := by
  rw [tAt_get (List.getElem?_eq_getElem (show a < mm.length by omega)), tAt_get (List.getElem?_eq_getElem hb)]
  exact List.pairwise_iff_getElem.1 h a b (by omega) hb hab
theorem Mds.step {l : List Dn} {W q i j : Nat} {out mm : List Dn} (h : Mds l W q out) (hm : Mrg l W (q * (2 * W)) i j mm) (hlt : q * (2 * W) < l.length) (hi : ¬ (i < q * (2 * W) + W ∧ i < l.length)) (hj : ¬ (j < q * (2 * W) + 2 * W ∧ j < l.length)) : Mds l W (q + 1) (out ++ mm) := by
  have i0 := hm.i0
  have i1 := hm.i1
  have j0 := hm.j0
  have j1 := hm.j1
  have e1 : (q + 1) * (2 * W) = q * (2 * W) + 2 * W := by rw [Nat.add_mul, Nat.one_mul]
  have hlen : out.length = q * (2 * W) := by rw [h.pm.length_eq, List.length_take]; omega
  have hseg : seg2 l (q * (2 * W)) i ++ seg2 l (q * (2 * W) + W) j = seg2 l (q * (2 * W)) (q * (2 * W) + 2 * W) := by
    have a1 : seg2 l (q * (2 * W)) i = seg2 l (q * (2 * W)) (q * (2 * W) + W) := by
      rcases Nat.lt_or_ge i (q * (2 * W) + W) with h1 | h1
      · have h2 : l.length ≤ i := by
          rcases Nat.lt_or_ge i l.length with h3 | h3
          · exact absurd ⟨h1, h3⟩ hi
          · exact h3
        unfold seg2
        rw [List.take_of_length_le h2, List.take_of_length_le (by omega)]
      · rw [show i = q * (2 * W) + W by omega]
    have a2 : seg2 l (q * (2 * W) + W) j = seg2 l (q * (2 * W) + W) (q * (2 * W) + 2 * W) := by
      rcases Nat.lt_or_ge j (q * (2 * W) + 2 * W) with h1 | h1
      · have h2 : l.length ≤ j := by
          rcases Nat.lt_or_ge j l.length with h3 | h3
          · exact absurd ⟨h1, h3⟩ hj
          · exact h3
        unfold seg2
        rw [List.take_of_length_le h2, List.take_of_length_le (by omega)]
      · rw [show j = q * (2 * W) + 2 * W by omega]
    rw [a1, a2]
    exact seg2_app l _ _ _ (by omega) (by omega)
  have hml : mm.length ≤ 2 * W := by
    rw [hm.pm.length_eq, hseg, len_seg2]; omega
  refine ⟨?_, ?_⟩
  · rw [e1]
    have hp := hm.pm
    rw [hseg] at hp
    refine (h.pm.append hp).trans ?_
    have : l.take (q * (2 * W)) = seg2 l 0 (q * (2 * W)) := by unfold seg2; simp
    rw [this, seg2_app l 0 _ _ (by omega) (by omega)]
    unfold seg2
    simp
  · intro r a b h1 h2 h3 h4
    rw [List.length_append, hlen] at h4
    have hrr : (r + 1) * (2 * W) = r * (2 * W) + 2 * W := by rw [Nat.add_mul, Nat.one_mul]
    rcases Nat.lt_or_ge b (q * (2 * W)) with hb | hb
    · have ea : tAt (out ++ mm) a = tAt out a := by unfold tAt; rw [List.getElem?_append_left (by omega)]
      have eb : tAt (out ++ mm) b = tAt out b := by unfold tAt; rw [List.getElem?_append_left (by omega)]
      rw [ea, eb]
      exact h.bl r a b h1 h2 h3 (by omega)
    · have hqr : q * (2 * W) ≤ a := by
        have : q ≤ r := by
          rcases Nat.lt_or_ge r q with h5 | h5
          · have := Nat.mul_le_mul_right (2 * W) (show r + 1 ≤ q by omega)
            omega
          · exact h5
        have := Nat.mul_le_mul_right (2 * W) this
        omega
      have ea : tAt (out ++ mm) a = tAt mm (a - q * (2 * W)) := by unfold tAt; rw [List.getElem?_append_right (by omega), hlen]
      have eb : tAt (out ++ mm) b = tAt mm (b - q * (2 * W)) := by unfold tAt; rw [List.getElem?_append_right (by omega), hlen]
      rw [ea, eb]
      exact srt_at hm.so _ _ (by omega) (by omega)
theorem Mds.done {l : List Dn} {W q : Nat} {out : List Dn} (h : Mds l W q out) (hq : l.length ≤ q * (2 * W)) : out.Perm l ∧ Blk (2 * W) out := by
  refine ⟨?_, h.bl⟩
  have := h.pm
  rw [List.take_of_length_le hq] at this
  exact this
theorem blk_one (l : List Dn) : Blk 1 l := fun q a b h1 h2 h3 _ => by omega
theorem blk_all {W : Nat} {l : List Dn} (h : Blk W l) (hW : l.length ≤ W) : Srt l := by
  refine List.pairwise_iff_getElem.2 fun a b ha hb hab => ?_
  have := h 0 a b (by omega) hab (by omega) hb
  rw [tAt_get (List.getElem?_eq_getElem ha), tAt_get (List.getElem?_eq_getElem hb)] at this
  exact this
end Go.Proofs.YtajobgmnmbnhiaaGreatDoor.Sap
