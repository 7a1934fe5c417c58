/- WHAT IS PROVED HERE: saplingkeep's act, where a page is swapped (done or not) or a fresh one is asked for (given or not). Conditions: named at each theorem. -/
import Derived.Test.YtajobgmnmbnhiaaGreatDoorPt20
namespace Go.Proofs.YtajobgmnmbnhiaaGreatDoor.Sap
open Go.RowKit
theorem set_other {l : List As} {i j : Nat} {a b : As} (h : l[j]? = some a) (hij : i ≠ j) : (l.set i b)[j]? = some a := by
  rw [List.getElem?_set, if_neg hij]; exact h
set_option maxRecDepth 100000 in
set_option maxHeartbeats 3200000 in
theorem act_swap (gw ug uc tg tc vg vc p : Nat) (t t0 : ByteArray) (ver : Int) (w0 w : World) (B iw jt ju jv : Nat) (l : List As) (c : Array Value) (T U V : List Value) (h : M w0 B w l) (hw : l[iw]? = some (.blk gw c 34))
    (c0 : c[0]? = some (.slice (some ⟨tg, 0, none⟩) 64 tc)) (c1 : c[1]? = some (.slice (some ⟨ug, 0, none⟩) 64 uc)) (c2 : c[2]? = some (.slice (some ⟨vg, 0, none⟩) 64 vc))
    (hT : l[jt]? = some (.row 9 1 (.slice (some ⟨tg, 0, none⟩) 64 tc) 64 T)) (hU : l[ju]? = some (.row 4 1 (.slice (some ⟨ug, 0, none⟩) 64 uc) 64 U)) (hV : l[jv]? = some (.row 3 1 (.slice (some ⟨vg, 0, none⟩) 64 vc) 64 V)) (hne : jt ≠ jv)
    (hp : p < 64) (hTp : T[p]? = some (.string t0)) (hUp : U[p]? = some (.bool true)) (hVp : V[p]? = some (.int .i64 ver)) (hv0 : 0 ≤ ver) (hv1 : ver ≤ 1000000000) (ht : t.size ≤ 47) :
    Calls Tryz.prog 44 #[.pointer (some ⟨gw, 0, none⟩), .agg #[.int .i64 2, .int .i64 p, .int .i64 ver, .string t]] w fun e w' => e = .returned (.agg #[.int .i64 0, .int .i64 0, .string ⟨#[]⟩, .bool true]) ∧
      M w0 B w' ((l.set jt (.row 9 1 (.slice (some ⟨tg, 0, none⟩) 64 tc) 64 (T.set p (.string t)))).set jv (.row 3 1 (.slice (some ⟨vg, 0, none⟩) 64 vc) 64 (V.set p (.int .i64 (ver + 1))))) := by
  have A0 := hideIt ((h.alloc #[.int .i64 2, .int .i64 p, .int .i64 ver, .string t] 94).alloc #[.int .i64 0, .int .i64 0, .string ⟨#[]⟩, .bool false] 99)
  rw [alloc_size] at A0
  obtain ⟨W, hW⟩ : ∃ W, (w.alloc (.cells #[.int .i64 2, .int .i64 p, .int .i64 ver, .string t] 94)).alloc (.cells #[.int .i64 0, .int .i64 0, .string ⟨#[]⟩, .bool false] 99) = W := ⟨_, rfl⟩
  have HW := hideIt hW
  rw [hW] at A0
  have K1 := hideIt (A0.out.cell (i := iw + 2) (by simpa using hw) 1 _ c1)
  have K2 := hideIt (A0.out.rowCell (i := ju + 2) (by simpa using hU) p _ hUp)
  have hp1 : (0 : Int) ≤ (p : Int) := by omega
  have hp2 : (p : Int) < 64 := by omega
  have hts : (t.size : Int) ≤ 47 := by omega
  have hvv : (ver == ver) = true := by simp
  have hvn : (ver != ver) = false := by simp
  obtain ⟨ga, hga⟩ : ∃ g, w.heap.size = g := ⟨_, rfl⟩
  rw [hga] at A0
  have HGA := hideIt hga
  clear hW hga
  go_enter Tryz.func44, Tryz.ntmps44
  go_wp2_with fail
  rw [HW.out, HGA.out]
  refine (there_yes gw ug uc p _ K1.out K2.out hp).mono ?_
  rintro e w' ⟨rfl, rfl⟩
  clear K1 K2 HW HGA
  obtain ⟨gr, hgr⟩ : ∃ g, ga + 1 = g := ⟨_, rfl⟩
  rw [hgr] at A0 ⊢
  clear hgr
  have a0 := A0.out.cell (i := 1) rfl 0 (.int .i64 2) rfl
  have a1 := A0.out.cell (i := 1) rfl 1 (.int .i64 p) rfl
  have a2 := A0.out.cell (i := 1) rfl 2 (.int .i64 ver) rfl
  have a3 := A0.out.cell (i := 1) rfl 3 (.string t) rfl
  have w0c := A0.out.cell (i := iw + 2) (by simpa using hw) 0 _ c0
  have w2c := A0.out.cell (i := iw + 2) (by simpa using hw) 2 _ c2
  have tp := A0.out.rowCell (i := jt + 2) (by simpa using hT) p _ hTp
  have vp := A0.out.rowCell (i := jv + 2) (by simpa using hV) p _ hVp
  have tf := A0.out.rowFree (i := jt + 2) (by simpa using hT) p
  have S1 : Hid (∀ d, M w0 B ((w'.drewN d).setCell ⟨tg, p, none⟩ (.string t)) (.blk gr #[.int .i64 0, .int .i64 0, .string ⟨#[]⟩, .bool false] 99 :: .blk ga #[.int .i64 2, .int .i64 p, .int .i64 ver, .string t] 94 :: l.set jt (.row 9 1 (.slice (some ⟨tg, 0, none⟩) 64 tc) 64 (T.set p (.string t))))) := fun d => (A0.out.drewN d).storeRow (i := jt + 2) (j := p) (by simpa using hT) (.string t)
  obtain ⟨l1, hl1⟩ : ∃ x, l.set jt (.row 9 1 (.slice (some ⟨tg, 0, none⟩) 64 tc) 64 (T.set p (.string t))) = x := ⟨_, rfl⟩
  have hV1 : Hid (l1[jv]? = some (.row 3 1 (.slice (some ⟨vg, 0, none⟩) 64 vc) 64 V)) := by unfold Hid; rw [← hl1]; exact set_other hV hne
  have hw1 : Hid (∃ c', l1[iw]? = some (.blk gw c' 34) ∧ c'[2]? = some (.slice (some ⟨vg, 0, none⟩) 64 vc)) := by
    have : jt ≠ iw := fun e => by rw [e, hw] at hT; cases hT
    unfold Hid; rw [← hl1]; exact ⟨c, set_other hw this, c2⟩
  rw [hl1] at S1
  have HL1 := hideIt hl1
  have HVP := hideIt hVp
  clear hl1 hT hU hV hw c0 c1 c2 h hTp hUp hVp hne
  go_wp2
  go_quiet (fail)
  go_upto_region 11 with fail
  go_cut [] (fun wy => Hid (M w0 B wy (.blk gr #[.int .i64 0, .int .i64 0, .string ⟨#[]⟩, .bool false] 99 :: .blk ga #[.int .i64 2, .int .i64 p, .int .i64 ver, .string t] 94 :: l1)))
  case first =>
    go_region
    all_goals
      go_wp2
      go_meet
      case rel => exact S1.out (nq + 1)
  case rest =>
    clear A0 a0 a1 a2 a3 w0c w2c tp vp tf S1
    obtain ⟨c', hw1, hc'⟩ := hw1.out
    have a1 := hcut.out.cell (i := 1) rfl 1 (.int .i64 p) rfl
    have w2c := hcut.out.cell (i := iw + 2) (by simpa using hw1) 2 _ hc'
    have vp := hcut.out.rowCell (i := jv + 2) (by simpa using hV1.out) p _ HVP.out
    have vf := hcut.out.rowFree (i := jv + 2) (by simpa using hV1.out) p
    have S2 : Hid (∀ d, M w0 B ((wc.drewN d).setCell ⟨vg, p, none⟩ (.int .i64 (ver + 1))) (.blk gr #[.int .i64 0, .int .i64 0, .string ⟨#[]⟩, .bool false] 99 :: .blk ga #[.int .i64 2, .int .i64 p, .int .i64 ver, .string t] 94 :: l1.set jv (.row 3 1 (.slice (some ⟨vg, 0, none⟩) 64 vc) 64 (V.set p (.int .i64 (ver + 1)))))) := fun d => (hcut.out.drewN d).storeRow (i := jv + 2) (j := p) (by simpa using hV1.out) (.int .i64 (ver + 1))
    go_upto_region 12 with fail
    go_cut [] (fun wy => Hid (M w0 B wy (.blk gr #[.int .i64 0, .int .i64 0, .string ⟨#[]⟩, .bool false] 99 :: .blk ga #[.int .i64 2, .int .i64 p, .int .i64 ver, .string t] 94 :: l1.set jv (.row 3 1 (.slice (some ⟨vg, 0, none⟩) 64 vc) 64 (V.set p (.int .i64 (ver + 1)))))))
    case first =>
      clear hcut hw1 hc'
      go_region
      all_goals
        go_wp2
        go_meet
        case rel => exact S2.out 1
    case rest =>
      have HN := hideIt hcut.out
      clear hcut hw1 hc' a1 w2c vp vf S2
      have r0 := HN.out.cell (i := 0) rfl 0 (.int .i64 0) rfl
      have r1 := HN.out.cell (i := 0) rfl 1 (.int .i64 0) rfl
      have r2 := HN.out.cell (i := 0) rfl 2 (.string ⟨#[]⟩) rfl
      have r3 := HN.out.cell (i := 0) rfl 3 (.bool false) rfl
      have f0 := HN.out.free (i := 0) rfl 0
      have f1 := HN.out.free (i := 0) rfl 1
      have f2 := HN.out.free (i := 0) rfl 2
      have f3 := HN.out.free (i := 0) rfl 3
      have S4 := hideIt ((((HN.out.store (i := 0) (j := 0) rfl (.int .i64 0) rfl).store (i := 0) (j := 1) rfl (.int .i64 0) rfl).store (i := 0) (j := 2) rfl (.string ⟨#[]⟩) rfl).store (i := 0) (j := 3) rfl (.bool true) rfl)
      clear HN
      go_wp2
      refine bodyPost_ret (v := .agg #[.int .i64 0, .int .i64 0, .string ⟨#[]⟩, .bool true]) (by simp [results, Tryz.results44, go_sem, *]) rfl ⟨rfl, ?_⟩
      rw [HL1.out]
      exact (S4.out.sub (List.sublist_cons_self _ _)).sub (List.sublist_cons_self _ _)
theorem M.store4 {w0 w : World} {B i b : Nat} {l : List As} {c0 c1 c2 c3 : Value} {t : TypeId} (h : M w0 B w l) (hi : l[i]? = some (.blk b #[c0, c1, c2, c3] t)) (a0 a1 a2 a3 : Value) :
    M w0 B ((((w.setCell ⟨b, 0, none⟩ a0).setCell ⟨b, 1, none⟩ a1).setCell ⟨b, 2, none⟩ a2).setCell ⟨b, 3, none⟩ a3) (l.set i (.blk b #[a0, a1, a2, a3] t)) := by
  have hl : i < l.length := (List.getElem?_eq_some_iff.1 hi).1
  have e : ∀ (a : As), (l.set i a)[i]? = some a := fun a => by rw [List.getElem?_set, if_pos rfl, if_pos hl]
  have s0 := h.store (j := 0) hi a0 (c' := #[a0, c1, c2, c3]) rfl
  have s1 := s0.store (j := 1) (e _) a1 (c' := #[a0, a1, c2, c3]) rfl
  rw [List.set_set] at s1
  have s2 := s1.store (j := 2) (e _) a2 (c' := #[a0, a1, a2, c3]) rfl
  rw [List.set_set] at s2
  have s3 := s2.store (j := 3) (e _) a3 (c' := #[a0, a1, a2, a3]) rfl
  rw [List.set_set] at s3
  exact s3
set_option maxRecDepth 100000 in
set_option maxHeartbeats 3200000 in
theorem act_swap_no (gw ug uc vg vc p : Nat) (t : ByteArray) (ver cur : Int) (w : World) (c1 : w.cell? ⟨gw, 1, none⟩ = some (.slice (some ⟨ug, 0, none⟩) 64 uc)) (c2 : w.cell? ⟨gw, 2, none⟩ = some (.slice (some ⟨vg, 0, none⟩) 64 vc))
    (hp : p < 64) (hUp : w.cell? ⟨ug, p, none⟩ = some (.bool true)) (hVp : w.cell? ⟨vg, p, none⟩ = some (.int .i64 cur)) (hne : cur ≠ ver) (ht : t.size ≤ 47) :
    Calls Tryz.prog 44 #[.pointer (some ⟨gw, 0, none⟩), .agg #[.int .i64 2, .int .i64 p, .int .i64 ver, .string t]] w fun e w' => e = .returned (.agg #[.int .i64 0, .int .i64 0, .string ⟨#[]⟩, .bool false]) ∧ Below w.heap.size w w' := by
  have A0 := hideIt (((M.start w).alloc #[.int .i64 2, .int .i64 p, .int .i64 ver, .string t] 94).alloc #[.int .i64 0, .int .i64 0, .string ⟨#[]⟩, .bool false] 99)
  rw [alloc_size] at A0
  have k1 := cell_below A0.out.bl _ _ c1
  have k2 := cell_below A0.out.bl _ _ c2
  have k3 := cell_below A0.out.bl _ _ hUp
  have k4 := cell_below A0.out.bl _ _ hVp
  have K1 := hideIt k1
  have K3 := hideIt k3
  have hp1 : (0 : Int) ≤ (p : Int) := by omega
  have hp2 : (p : Int) < 64 := by omega
  have hts : (t.size : Int) ≤ 47 := by omega
  have hvn : (cur != ver) = true := by simp [hne]
  clear c1 c2 hUp hVp hne
  go_enter Tryz.func44, Tryz.ntmps44
  go_wp2_with fail
  refine (there_yes gw ug uc p _ K1.out K3.out hp).mono ?_
  rintro e w' ⟨rfl, rfl⟩
  go_wp2
  go_quiet (fail)
  obtain ⟨g, hg⟩ : ∃ g, w.heap.size = g := ⟨_, rfl⟩
  have HG := hideIt hg
  rw [hg] at A0 ⊢
  obtain ⟨W, hW⟩ : ∃ W, (w.alloc (.cells #[.int .i64 2, .int .i64 p, .int .i64 ver, .string t] 94)).alloc (.cells #[.int .i64 0, .int .i64 0, .string ⟨#[]⟩, .bool false] 99) = W := ⟨_, rfl⟩
  rw [hW] at A0 ⊢
  clear k1 k2 k3 k4 K1 K3 hg hW
  have r0 := A0.out.cell (i := 0) rfl 0 (.int .i64 0) rfl
  have r1 := A0.out.cell (i := 0) rfl 1 (.int .i64 0) rfl
  have r2 := A0.out.cell (i := 0) rfl 2 (.string ⟨#[]⟩) rfl
  have r3 := A0.out.cell (i := 0) rfl 3 (.bool false) rfl
  have f0 := A0.out.free (i := 0) rfl 0
  have f1 := A0.out.free (i := 0) rfl 1
  have f2 := A0.out.free (i := 0) rfl 2
  have f3 := A0.out.free (i := 0) rfl 3
  have S4 := hideIt ((A0.out.drewN nq).store4 (i := 0) rfl (.int .i64 0) (.int .i64 0) (.string ⟨#[]⟩) (.bool false))
  go_wp2
  refine bodyPost_ret (v := .agg #[.int .i64 0, .int .i64 0, .string ⟨#[]⟩, .bool false]) (by simp [results, Tryz.results44, go_sem, *]) rfl ⟨rfl, ?_⟩
  rw [HG.out]
  exact S4.out.bl
set_option maxRecDepth 100000 in
set_option maxHeartbeats 6400000 in
theorem act_fresh (gw ug uc tg tc vg vc f q : Nat) (b : Bool) (t t0 : ByteArray) (ver v0 : Int) (w0 w : World) (B iw jt ju jv : Nat) (l : List As) (c : Array Value) (T U V : List Value) (h : M w0 B w l) (hw : l[iw]? = some (.blk gw c 34))
    (c0 : c[0]? = some (.slice (some ⟨tg, 0, none⟩) 64 tc)) (c1 : c[1]? = some (.slice (some ⟨ug, 0, none⟩) 64 uc)) (c2 : c[2]? = some (.slice (some ⟨vg, 0, none⟩) 64 vc))
    (hT : l[jt]? = some (.row 9 1 (.slice (some ⟨tg, 0, none⟩) 64 tc) 64 T)) (hU : l[ju]? = some (.row 4 1 (.slice (some ⟨ug, 0, none⟩) 64 uc) 64 U)) (hV : l[jv]? = some (.row 3 1 (.slice (some ⟨vg, 0, none⟩) 64 vc) 64 V)) (hne : jt ≠ jv) (hne2 : ju ≠ jt) (hne3 : ju ≠ jv)
    (hf : f < 64) (hq : q < 64) (hUq : U[q]? = some (.bool b)) (hTp : T[f]? = some (.string t0)) (hUp : U[f]? = some (.bool false)) (hUl : ∀ k, k < f → U[k]? = some (.bool true)) (hVp : V[f]? = some (.int .i64 v0)) (ht : t.size ≤ 47) :
    Calls Tryz.prog 44 #[.pointer (some ⟨gw, 0, none⟩), .agg #[.int .i64 3, .int .i64 q, .int .i64 ver, .string t]] w fun e w' => e = .returned (.agg #[.int .i64 0, .int .i64 f, .string ⟨#[]⟩, .bool false]) ∧
      M w0 B w' (((l.set ju (.row 4 1 (.slice (some ⟨ug, 0, none⟩) 64 uc) 64 (U.set f (.bool true)))).set jt (.row 9 1 (.slice (some ⟨tg, 0, none⟩) 64 tc) 64 (T.set f (.string t)))).set jv (.row 3 1 (.slice (some ⟨vg, 0, none⟩) 64 vc) 64 (V.set f (.int .i64 0)))) := by
  have A0 := hideIt ((h.alloc #[.int .i64 3, .int .i64 q, .int .i64 ver, .string t] 94).alloc #[.int .i64 0, .int .i64 0, .string ⟨#[]⟩, .bool false] 99)
  rw [alloc_size] at A0
  obtain ⟨W, hW⟩ : ∃ W, (w.alloc (.cells #[.int .i64 3, .int .i64 q, .int .i64 ver, .string t] 94)).alloc (.cells #[.int .i64 0, .int .i64 0, .string ⟨#[]⟩, .bool false] 99) = W := ⟨_, rfl⟩
  have HW := hideIt hW
  rw [hW] at A0
  have K1 := hideIt (A0.out.cell (i := iw + 2) (by simpa using hw) 1 _ c1)
  have K2 := hideIt (A0.out.rowCell (i := ju + 2) (by simpa using hU) q _ hUq)
  have hts : (t.size : Int) ≤ 47 := by omega
  obtain ⟨ga, hga⟩ : ∃ g, w.heap.size = g := ⟨_, rfl⟩
  rw [hga] at A0
  have HGA := hideIt hga
  clear hW hga
  go_enter Tryz.func44, Tryz.ntmps44
  go_wp2_with fail
  rw [HW.out, HGA.out]
  refine (there_any gw ug uc q b _ K1.out K2.out hq).mono ?_
  rintro e w' ⟨rfl, rfl⟩
  clear K2 HW HGA
  obtain ⟨gr, hgr⟩ : ∃ g, ga + 1 = g := ⟨_, rfl⟩
  rw [hgr] at A0 ⊢
  clear hgr
  have S1 : M w0 B (w'.setCell ⟨ug, f, none⟩ (.bool true)) (.blk gr #[.int .i64 0, .int .i64 0, .string ⟨#[]⟩, .bool false] 99 :: .blk ga #[.int .i64 3, .int .i64 q, .int .i64 ver, .string t] 94 :: l.set ju (.row 4 1 (.slice (some ⟨ug, 0, none⟩) 64 uc) 64 (U.set f (.bool true)))) := A0.out.storeRow (i := ju + 2) (j := f) (by simpa using hU) (.bool true)
  obtain ⟨l1, hl1⟩ : ∃ x, l.set ju (.row 4 1 (.slice (some ⟨ug, 0, none⟩) 64 uc) 64 (U.set f (.bool true))) = x := ⟨_, rfl⟩
  have hT1 : l1[jt]? = some (.row 9 1 (.slice (some ⟨tg, 0, none⟩) 64 tc) 64 T) := by rw [← hl1]; exact set_other hT hne2
  have hV1 : l1[jv]? = some (.row 3 1 (.slice (some ⟨vg, 0, none⟩) 64 vc) 64 V) := by rw [← hl1]; exact set_other hV hne3
  rw [hl1] at S1
  have S2 : M w0 B ((w'.setCell ⟨ug, f, none⟩ (.bool true)).setCell ⟨tg, f, none⟩ (.string t)) (.blk gr #[.int .i64 0, .int .i64 0, .string ⟨#[]⟩, .bool false] 99 :: .blk ga #[.int .i64 3, .int .i64 q, .int .i64 ver, .string t] 94 :: l1.set jt (.row 9 1 (.slice (some ⟨tg, 0, none⟩) 64 tc) 64 (T.set f (.string t)))) := S1.storeRow (i := jt + 2) (j := f) (by simpa using hT1) (.string t)
  obtain ⟨l2, hl2⟩ : ∃ x, l1.set jt (.row 9 1 (.slice (some ⟨tg, 0, none⟩) 64 tc) 64 (T.set f (.string t))) = x := ⟨_, rfl⟩
  have hV2 : l2[jv]? = some (.row 3 1 (.slice (some ⟨vg, 0, none⟩) 64 vc) 64 V) := by rw [← hl2]; exact set_other hV1 hne
  rw [hl2] at S2
  have S3 : M w0 B (((w'.setCell ⟨ug, f, none⟩ (.bool true)).setCell ⟨tg, f, none⟩ (.string t)).setCell ⟨vg, f, none⟩ (.int .i64 0)) (.blk gr #[.int .i64 0, .int .i64 0, .string ⟨#[]⟩, .bool false] 99 :: .blk ga #[.int .i64 3, .int .i64 q, .int .i64 ver, .string t] 94 :: l2.set jv (.row 3 1 (.slice (some ⟨vg, 0, none⟩) 64 vc) 64 (V.set f (.int .i64 0)))) := S2.storeRow (i := jv + 2) (j := f) (by simpa using hV2) (.int .i64 0)
  obtain ⟨l3, hl3⟩ : ∃ x, l2.set jv (.row 3 1 (.slice (some ⟨vg, 0, none⟩) 64 vc) 64 (V.set f (.int .i64 0))) = x := ⟨_, rfl⟩
  rw [hl3] at S3
  have HL3 : Hid (((l.set ju (.row 4 1 (.slice (some ⟨ug, 0, none⟩) 64 uc) 64 (U.set f (.bool true)))).set jt (.row 9 1 (.slice (some ⟨tg, 0, none⟩) 64 tc) 64 (T.set f (.string t)))).set jv (.row 3 1 (.slice (some ⟨vg, 0, none⟩) 64 vc) 64 (V.set f (.int .i64 0))) = l3) := by unfold Hid; rw [hl1, hl2, hl3]
  have S4 := S3.store4 (i := 0) rfl (.int .i64 0) (.int .i64 f) (.string ⟨#[]⟩) (.bool false)
  have S5 : Hid (M w0 B _ l3) := (S4.sub (List.sublist_cons_self _ _)).sub (List.sublist_cons_self _ _)
  clear hl1 hl2 hl3 hT1 hV1 hV2
  have a0 := A0.out.cell (i := 1) rfl 0 (.int .i64 3) rfl
  have a3 := A0.out.cell (i := 1) rfl 3 (.string t) rfl
  have w0c := A0.out.cell (i := iw + 2) (by simpa using hw) 0 _ c0
  have w1c := A0.out.cell (i := iw + 2) (by simpa using hw) 1 _ c1
  have w2c := A0.out.cell (i := iw + 2) (by simpa using hw) 2 _ c2
  have HUL : Hid (∀ k, k < f → w'.cell? ⟨ug, k, none⟩ = some (.bool true)) := fun k hk => A0.out.rowCell (i := ju + 2) (by simpa using hU) k _ (hUl k hk)
  have tp := A0.out.rowCell (i := jt + 2) (by simpa using hT) f _ hTp
  have vp := A0.out.rowCell (i := jv + 2) (by simpa using hV) f _ hVp
  have up := A0.out.rowCell (i := ju + 2) (by simpa using hU) f _ hUp
  have tf := A0.out.rowFree (i := jt + 2) (by simpa using hT) f
  have vf := A0.out.rowFree (i := jv + 2) (by simpa using hV) f
  have uf := A0.out.rowFree (i := ju + 2) (by simpa using hU) f
  have r0 := A0.out.cell (i := 0) rfl 0 (.int .i64 0) rfl
  have r1 := A0.out.cell (i := 0) rfl 1 (.int .i64 0) rfl
  have r2 := A0.out.cell (i := 0) rfl 2 (.string ⟨#[]⟩) rfl
  have r3 := A0.out.cell (i := 0) rfl 3 (.bool false) rfl
  have f0 := A0.out.free (i := 0) rfl 0
  have f1 := A0.out.free (i := 0) rfl 1
  have f2 := A0.out.free (i := 0) rfl 2
  have f3 := A0.out.free (i := 0) rfl 3
  have n1 : gr ≠ ug := A0.out.ne (i := 0) (j := ju + 2) rfl (by simpa using hU)
  have n2 : gr ≠ tg := A0.out.ne (i := 0) (j := jt + 2) rfl (by simpa using hT)
  have n3 : gr ≠ vg := A0.out.ne (i := 0) (j := jv + 2) rfl (by simpa using hV)
  have n4 : ga ≠ ug := A0.out.ne (i := 1) (j := ju + 2) rfl (by simpa using hU)
  have n5 : gw ≠ ug := A0.out.ne (i := iw + 2) (j := ju + 2) (by simpa using hw) (by simpa using hU)
  have n6 : gw ≠ tg := A0.out.ne (i := iw + 2) (j := jt + 2) (by simpa using hw) (by simpa using hT)
  have hrr : ∀ (i j g g' e e' n m cp cq : Nat) (x y : List Value), l[i]? = some (.row e 1 (.slice (some ⟨g, 0, none⟩) n cp) n x) → l[j]? = some (.row e' 1 (.slice (some ⟨g', 0, none⟩) m cq) m y) → i ≠ j → g ≠ g' := by
    intro i j g g' e e' n m cp cq x y hi hj hij heq
    subst heq
    have hil := (List.getElem?_eq_some_iff.1 hi).1
    have hjl := (List.getElem?_eq_some_iff.1 hj).1
    have hia := (List.getElem?_eq_some_iff.1 hi).2
    have hja := (List.getElem?_eq_some_iff.1 hj).2
    rcases Nat.lt_or_gt_of_ne hij with hlt | hlt
    · have := List.pairwise_iff_getElem.1 h.apart i j hil hjl hlt
      rw [hia, hja] at this; exact this g rfl rfl
    · have := List.pairwise_iff_getElem.1 h.apart j i hjl hil hlt
      rw [hia, hja] at this; exact this g rfl rfl
  have n7 : ug ≠ tg := hrr ju jt _ _ _ _ _ _ _ _ _ _ hU hT hne2
  have n8 : ug ≠ vg := hrr ju jv _ _ _ _ _ _ _ _ _ _ hU hV hne3
  have n9 : tg ≠ vg := hrr jt jv _ _ _ _ _ _ _ _ _ _ hT hV hne
  clear A0 S1 S2 S3 S4 hrr h hw hT hU hV hne hne2 hne3 c0 c1 c2 hTp hUp hVp hUq hUl K1
  go_wp2
  go_loopw [7] (fun i wr => ∃ k : Nat, k ≤ f ∧ i = .int .i64 k ∧ wr = w') (fun i _ => f - (intOf i).toNat)
  case atStart => exact ⟨0, Nat.zero_le _, rfl, rfl⟩
  case round =>
    obtain ⟨k, hk, rfl, rfl⟩ := hrel
    have hk0 : (0 : Int) ≤ (k : Int) := by omega
    have hk1 : (k : Int) < 64 := by omega
    by_cases hkf : k < f
    · have uk := HUL.out k hkf
      go_wp2
      go_roundw
      case rel => exact ⟨k + 1, by omega, by go_num, by trivial⟩
      case measure => simp [intOf]; omega
    · obtain rfl : k = f := by omega
      go_wp2
      go_region
      all_goals
        go_wp2
        refine bodyPost_ret (v := .agg #[.int .i64 0, .int .i64 k, .string ⟨#[]⟩, .bool false]) (by simp [results, Tryz.results44, go_sem, *]) rfl ⟨rfl, ?_⟩
        rw [HL3.out]
        exact S5.out.drew
set_option maxRecDepth 100000 in
set_option maxHeartbeats 3200000 in
theorem act_fresh_no (gw ug uc q : Nat) (t : ByteArray) (ver : Int) (w : World) (c1 : w.cell? ⟨gw, 1, none⟩ = some (.slice (some ⟨ug, 0, none⟩) 64 uc)) (hq : q < 64) (hU : ∀ k, k < 64 → w.cell? ⟨ug, k, none⟩ = some (.bool true)) (ht : t.size ≤ 47) :
    Calls Tryz.prog 44 #[.pointer (some ⟨gw, 0, none⟩), .agg #[.int .i64 3, .int .i64 q, .int .i64 ver, .string t]] w fun e w' => e = .returned (.agg #[.int .i64 0, .int .i64 (-1), .string ⟨#[]⟩, .bool false]) ∧ Below w.heap.size w w' := by
  have A0 := hideIt (((M.start w).alloc #[.int .i64 3, .int .i64 q, .int .i64 ver, .string t] 94).alloc #[.int .i64 0, .int .i64 0, .string ⟨#[]⟩, .bool false] 99)
  rw [alloc_size] at A0
  obtain ⟨W, hW⟩ : ∃ W, (w.alloc (.cells #[.int .i64 3, .int .i64 q, .int .i64 ver, .string t] 94)).alloc (.cells #[.int .i64 0, .int .i64 0, .string ⟨#[]⟩, .bool false] 99) = W := ⟨_, rfl⟩
  have HW := hideIt hW
  rw [hW] at A0
  have K1 := hideIt (cell_below A0.out.bl _ _ c1)
  have KU : Hid (∀ k, k < 64 → W.cell? ⟨ug, k, none⟩ = some (.bool true)) := fun k hk => cell_below A0.out.bl _ _ (hU k hk)
  have hts : (t.size : Int) ≤ 47 := by omega
  obtain ⟨ga, hga⟩ : ∃ g, w.heap.size = g := ⟨_, rfl⟩
  rw [hga] at A0
  have HGA := hideIt hga
  clear hW hga c1 hU
  go_enter Tryz.func44, Tryz.ntmps44
  go_wp2_with fail
  rw [HW.out, HGA.out]
  refine (there_any gw ug uc q true _ K1.out (KU.out q hq) hq).mono ?_
  rintro e w' ⟨rfl, rfl⟩
  clear HW
  obtain ⟨gr, hgr⟩ : ∃ g, ga + 1 = g := ⟨_, rfl⟩
  rw [hgr] at A0 ⊢
  clear hgr
  have a0 := A0.out.cell (i := 1) rfl 0 (.int .i64 3) rfl
  have a3 := A0.out.cell (i := 1) rfl 3 (.string t) rfl
  have w1c := K1.out
  go_wp2
  go_loopw [7] (fun i wr => ∃ k : Nat, k ≤ 64 ∧ i = .int .i64 k ∧ wr = w') (fun i _ => 64 - (intOf i).toNat)
  case atStart => exact ⟨0, Nat.zero_le _, rfl, rfl⟩
  case round =>
    obtain ⟨k, hk, rfl, rfl⟩ := hrel
    have hk0 : (0 : Int) ≤ (k : Int) := by omega
    by_cases hkf : k < 64
    · have hk1 : (k : Int) < 64 := by omega
      have uk := KU.out k hkf
      go_wp2
      go_roundw
      case rel => exact ⟨k + 1, by omega, by go_num, by trivial⟩
      case measure => simp [intOf]; omega
    · obtain rfl : k = 64 := by omega
      rw [show ((64 : Nat) : Int) = 64 from rfl]
      have r0 := A0.out.cell (i := 0) rfl 0 (.int .i64 0) rfl
      have r1 := A0.out.cell (i := 0) rfl 1 (.int .i64 0) rfl
      have r2 := A0.out.cell (i := 0) rfl 2 (.string ⟨#[]⟩) rfl
      have r3 := A0.out.cell (i := 0) rfl 3 (.bool false) rfl
      have f0 := A0.out.free (i := 0) rfl 0
      have f1 := A0.out.free (i := 0) rfl 1
      have f2 := A0.out.free (i := 0) rfl 2
      have f3 := A0.out.free (i := 0) rfl 3
      have S4 := hideIt (A0.out.store4 (i := 0) rfl (.int .i64 0) (.int .i64 (-1)) (.string ⟨#[]⟩) (.bool false))
      go_wp2
      refine bodyPost_ret (v := .agg #[.int .i64 0, .int .i64 (-1), .string ⟨#[]⟩, .bool false]) (by simp [results, Tryz.results44, go_sem, *]) rfl ⟨rfl, ?_⟩
      rw [HGA.out]
      exact S4.out.bl
def GoR (P : ByteArray → Prop) (w w' : World) (e : Ending) : Prop :=
  ∃ c : ByteArray, e = .returned (.tuple #[.string c, .agg #[.int .i64 0, .bool false, .int .i64 0, .int .i64 0, .slice none 0 0, .slice none 0 0, .slice none 0 0], .bool false, .int .i64 0]) ∧ P c ∧ Below w.heap.size w w'
def FinR (er : Int) (fd : Bool) (va pt : Int) (ks vs : List Int) (cs : List (Int × Int)) (w w' : World) (e : Ending) : Prop :=
  ∃ kv vv cv, e = .returned (.tuple #[.string ⟨#[]⟩, .agg #[.int .i64 er, .bool fd, .int .i64 va, .int .i64 pt, kv, vv, cv], .bool true, .int .i64 0]) ∧ M w w.heap.size w' [.row 3 1 kv ks.length (ints ks), .row 3 1 vv vs.length (ints vs), .row 76 2 cv cs.length (cutc cs)]
def LM (gd kg kc gw tg tc ug uc vg vc dg dc bg bc nd : Nat) (k key v : Int) (f : ByteArray) (tm : Value) (nt : Nat) (drf : Bool) (kns ts : List Int) (now puts : Int) (rf wt kp : Bool) (cv ov : Value) (bs : List Int) (ds : List Value) (T : List ByteArray) (U : List Bool) (V : List Int) (fr : List As) : List As :=
  .blk gd (DC k key v f tm (.slice (some ⟨kg, 0, none⟩) 64 kc) drf false 0 false 0 0 (.slice none 0 0) (.slice none 0 0) (.slice none 0 0)) 48 :: .row 3 1 (.slice (some ⟨kg, 0, none⟩) 64 kc) 64 (ints kns) :: .row 3 1 tm nt (ints ts) :: .blk gw (WC (.slice (some ⟨tg, 0, none⟩) 64 tc) (.slice (some ⟨ug, 0, none⟩) 64 uc) (.slice (some ⟨vg, 0, none⟩) 64 vc) (.slice (some ⟨dg, 0, none⟩) nd dc) (.slice (some ⟨bg, 0, none⟩) 64 bc) now puts rf false wt false kp cv ov false) 34 :: .row 3 1 (.slice (some ⟨bg, 0, none⟩) 64 bc) 64 (ints bs) :: .row 40 1 (.slice (some ⟨dg, 0, none⟩) nd dc) nd ds :: .row 9 1 (.slice (some ⟨tg, 0, none⟩) 64 tc) 64 (strs T) :: .row 4 1 (.slice (some ⟨ug, 0, none⟩) 64 uc) 64 (bools U) :: .row 3 1 (.slice (some ⟨vg, 0, none⟩) 64 vc) 64 (ints V) :: fr
set_option maxRecDepth 100000 in
set_option maxHeartbeats 6400000 in
theorem move_go (gd kg kc nt gw tg tc ug uc vg vc dg dc bg bc nd i c : Nat) (cv ov : Value) (now puts : Int) (k key v ak ap av rv rp : Int) (f at' rt : ByteArray) (rd drf drf' rf wt : Bool) (kns kns' bs V V' : List Int) (ds : List Value) (ts : List Int) (T T' : List ByteArray) (U U' : List Bool) (tm : Value) (P : ByteArray → Prop) (fr : List As) (w0 w : World) (B : Nat) (htab : Tab w0) (hB : B = w0.heap.size)
    (hc : c < 64) (hb : bs[c]? = some (i : Int)) (hD : ds[i]? = some (.pointer (some ⟨gd, 0, none⟩))) (_hnd : nd ≤ 100000000) (hdl : ds.length = nd) (hnt : nt ≤ 100000000) (hnw : 0 ≤ now ∧ now ≤ 100000000000)
    (hNext : ∀ W, Tab W → Calls Tryz.prog 42 #[.string f] W fun e w' => e = .returned (.tuple #[.agg #[.int .i64 ak, .int .i64 ap, .int .i64 av, .string at'], .int .i64 0]) ∧ Below W.heap.size W w')
    (hLegal : ∀ W ga, M w0 B W (.blk ga #[.int .i64 ak, .int .i64 ap, .int .i64 av, .string at'] 94 :: LM gd kg kc gw tg tc ug uc vg vc dg dc bg bc nd k key v f tm nt drf kns ts now puts rf wt false cv ov bs ds T U V fr) → Calls Tryz.prog 43 #[.pointer (some ⟨gw, 0, none⟩), .pointer (some ⟨gd, 0, none⟩), .agg #[.int .i64 ak, .int .i64 ap, .int .i64 av, .string at']] W fun e w' => e = .returned (.bool true) ∧ Below W.heap.size W w')
    (hAct : ∀ W ga, M w0 B W (.blk ga #[.int .i64 ak, .int .i64 ap, .int .i64 av, .string at'] 94 :: LM gd kg kc gw tg tc ug uc vg vc dg dc bg bc nd k key v f tm nt drf kns ts now puts rf wt false cv ov bs ds T U V fr) → Calls Tryz.prog 44 #[.pointer (some ⟨gw, 0, none⟩), .agg #[.int .i64 ak, .int .i64 ap, .int .i64 av, .string at']] W fun e w' => e = .returned (.agg #[.int .i64 rv, .int .i64 rp, .string rt, .bool rd]) ∧ M w0 B w' (.blk ga #[.int .i64 ak, .int .i64 ap, .int .i64 av, .string at'] 94 :: LM gd kg kc gw tg tc ug uc vg vc dg dc bg bc nd k key v f tm nt drf kns ts now puts rf wt false cv ov bs ds T' U' V' fr))
    (hLearns : ∀ W ga gr, M w0 B W (.blk gr #[.int .i64 rv, .int .i64 rp, .string rt, .bool rd] 99 :: .blk ga #[.int .i64 ak, .int .i64 ap, .int .i64 av, .string at'] 94 :: LM gd kg kc gw tg tc ug uc vg vc dg dc bg bc nd k key v f tm nt drf kns ts now puts rf wt false cv ov bs ds T' U' V' fr) → Calls Tryz.prog 45 #[.pointer (some ⟨gd, 0, none⟩), .agg #[.int .i64 ak, .int .i64 ap, .int .i64 av, .string at'], .agg #[.int .i64 rv, .int .i64 rp, .string rt, .bool rd]] W fun e w' => (∃ u, e = .returned u) ∧ M w0 B w' (.blk gr #[.int .i64 rv, .int .i64 rp, .string rt, .bool rd] 99 :: .blk ga #[.int .i64 ak, .int .i64 ap, .int .i64 av, .string at'] 94 :: LM gd kg kc gw tg tc ug uc vg vc dg dc bg bc nd k key v f tm nt drf' kns' ts now puts rf wt false cv ov bs ds T' U' V' fr))
    (hStands : wt = true → ak ≠ 1 → ∀ W ga gr, M w0 B W (.blk gr #[.int .i64 rv, .int .i64 rp, .string rt, .bool rd] 99 :: .blk ga #[.int .i64 ak, .int .i64 ap, .int .i64 av, .string at'] 94 :: LM gd kg kc gw tg tc ug uc vg vc dg dc bg bc nd k key v f tm nt drf' kns' ts now puts rf wt false cv ov bs ds T' U' V' fr) → Calls Tryz.prog 46 #[.pointer (some ⟨gw, 0, none⟩)] W fun e w' => e = .returned (.bool true) ∧ Below W.heap.size W w')
    (hTell : ∀ W, Tab W → Calls Tryz.prog 47 #[.string f, .agg #[.int .i64 rv, .int .i64 rp, .string rt, .bool rd]] W fun e w' => GoR P W w' e)
    (h : M w0 B w (LM gd kg kc gw tg tc ug uc vg vc dg dc bg bc nd k key v f tm nt drf kns ts now puts rf wt false cv ov bs ds T U V fr)) :
    Calls Tryz.prog 28 #[.pointer (some ⟨gw, 0, none⟩), .int .i64 c] w fun e w' => (∃ u, e = .returned u) ∧ ∃ tm' f', P f' ∧ M w0 B w' (LM gd kg kc gw tg tc ug uc vg vc dg dc bg bc nd k key v f' tm' (nt + 1) drf' kns' (ts ++ [now]) (now + 1) puts (rf || drf') wt false cv ov bs ds T' U' V' fr) := by
  obtain ⟨i0, hi0, hz0, hz1, hz2⟩ := info_parts infoInt
  obtain ⟨ta, tcp, rfl⟩ := As.form0 (h.get (i := 2) rfl)
  obtain ⟨hn0, hn1⟩ := hnw
  have hi1 : i < nd := by rw [← hdl]; exact (List.getElem?_eq_some_iff.1 hD).1
  have hii : (i : Int) < (nd : Int) := by omega
  have hi2 : (0 : Int) ≤ (i : Int) := by omega
  have hc0 : (0 : Int) ≤ (c : Int) := by omega
  have hc1 : (c : Int) < 64 := by omega
  have q3 := h.cell (i := 3) rfl 3 (.slice (some ⟨dg, 0, none⟩) nd dc) rfl
  have q4 := h.cell (i := 3) rfl 4 (.slice (some ⟨bg, 0, none⟩) 64 bc) rfl
  have b0 := h.rowCell (i := 4) rfl c (.int .i64 i) (by simp [ints, hb])
  have d0 := h.rowCell (i := 5) rfl i _ hD
  have d3 := h.cell (i := 0) rfl 3 (.string f) rfl
  have HM := hideIt h
  have HT : Hid (∀ W l, M w0 B W l → Tab W) := fun W l hm => htab.below (hB ▸ hm.bl)
  have CN := hideIt hNext
  have CL := hideIt hLegal
  have CA := hideIt hAct
  have CE := hideIt hLearns
  have CST := hideIt hStands
  have HTL := hideIt hTell
  clear h htab hB hD hdl hTell hNext hLegal hAct hLearns hStands hb
  go_enter Tryz.func28, Tryz.ntmps28
  go_wp2
  go_quiet (fail)
  go_wp2_with fail
  refine (CN.out _ (HT.out _ _ (HM.out.drewN _))).mono ?_
  rintro e w1 ⟨rfl, hb⟩
  have A1 := hideIt ((HM.out.drewN _).below hb)
  clear hb HM CN q3 q4 b0 d0 d3
  have A2 := hideIt (A1.out.alloc #[.int .i64 ak, .int .i64 ap, .int .i64 av, .string at'] 94)
  obtain ⟨ga, hga⟩ : ∃ g, w1.heap.size = g := ⟨_, rfl⟩
  rw [hga] at A2
  go_wp2_with fail
  refine (CL.out _ ga A2.out).mono ?_
  rintro e w2 ⟨rfl, hb⟩
  have A3 := hideIt (A2.out.below hb)
  clear hb A2 A1 hga CL
  have a0 := A3.out.cell (i := 0) rfl 0 (.int .i64 ak) rfl
  have a1 := A3.out.cell (i := 0) rfl 1 (.int .i64 ap) rfl
  have a2 := A3.out.cell (i := 0) rfl 2 (.int .i64 av) rfl
  have a3 := A3.out.cell (i := 0) rfl 3 (.string at') rfl
  go_wp2_with fail
  refine (CA.out _ ga A3.out).mono ?_
  rintro e w3 ⟨rfl, hM3⟩
  have A4 := hideIt hM3
  clear hM3 A3 a0 a1 a2 a3 CA
  have a0 := A4.out.cell (i := 0) rfl 0 (.int .i64 ak) rfl
  have a1 := A4.out.cell (i := 0) rfl 1 (.int .i64 ap) rfl
  have a2 := A4.out.cell (i := 0) rfl 2 (.int .i64 av) rfl
  have a3 := A4.out.cell (i := 0) rfl 3 (.string at') rfl
  have hlg := A4.out.lt (i := 0) rfl
  have A5 := hideIt (A4.out.alloc #[.int .i64 rv, .int .i64 rp, .string rt, .bool rd] 99)
  go_wp2_with fail
  obtain ⟨gr, hgr⟩ : ∃ g, w3.heap.size = g := ⟨_, rfl⟩
  rw [hgr] at A5 ⊢
  refine (CE.out _ ga gr A5.out).mono ?_
  rintro e w4 ⟨⟨u, rfl⟩, hM4⟩
  have A6 := hideIt hM4
  clear hM4 A5 A4 a0 a1 a2 a3 hgr hlg CE
  have g9 := A6.out.cell (i := 5) rfl 9 (.bool wt) rfl
  have g10 := A6.out.cell (i := 5) rfl 10 (.bool false) rfl
  have ak0 := A6.out.cell (i := 1) rfl 0 (.int .i64 ak) rfl
  go_upto_region 9 with fail
  go_cut [63] (fun u wy => u = .bool (wt && (ak != 1)) ∧ wy = w4)
  case first =>
    cases wt
    all_goals
      go_wp2
      go_meet
      case rel => exact ⟨by simp, rfl⟩
  case rest =>
  obtain ⟨rfl, rfl⟩ := hcut
  obtain ⟨bb, hbb⟩ : ∃ b, (wt && (ak != 1)) = b := ⟨_, rfl⟩
  have HBB := hideIt hbb
  rw [hbb]
  clear hbb
  go_upto_if 63 with fail
  go_cut [] (fun wy => Hid (M w0 B wy (.blk gr #[.int .i64 rv, .int .i64 rp, .string rt, .bool rd] 99 :: .blk ga #[.int .i64 ak, .int .i64 ap, .int .i64 av, .string at'] 94 :: LM gd kg kc gw tg tc ug uc vg vc dg dc bg bc nd k key v f (.slice ta nt tcp) nt drf' kns' ts now puts rf wt false cv ov bs ds T' U' V' fr)))
  case first =>
    cases bb
    · go_wp2
      go_meet
      case rel => exact A6.out
    · have hb1 : wt = true ∧ ak ≠ 1 := by have := HBB.out; simp at this; exact this
      have CS2 := hideIt (CST.out hb1.1 hb1.2 _ ga gr A6.out)
      clear hb1
      go_wp2_with fail
      refine CS2.out.mono ?_
      rintro e w5 ⟨rfl, hb⟩
      have B6 := hideIt (A6.out.below hb)
      clear hb CS2 g9 g10 ak0
      have g10 := B6.out.cell (i := 5) rfl 10 (.bool false) rfl
      have f10 := B6.out.free (i := 5) rfl 10
      have S10 := hideIt (B6.out.store (i := 5) (j := 10) rfl (.bool false) rfl)
      go_wp2
      go_meet
      case rel => exact S10.out
  case rest =>
   have B6 := hideIt hcut.out
   clear hcut A6 g9 g10 ak0 CST
   have A6 := hideIt B6.out
   clear B6
   have g7 := A6.out.cell (i := 5) rfl 7 (.bool rf) rfl
   have g5 := A6.out.cell (i := 5) rfl 5 (.int .i64 now) rfl
   have d6 := A6.out.cell (i := 2) rfl 6 (.bool drf') rfl
   have d4 := A6.out.cell (i := 2) rfl 4 (.slice ta nt tcp) rfl
   have e7 := A6.out.free (i := 5) rfl 7
   have hgg := A6.out.bne (i := 2) (j := 5) rfl rfl (by omega)
   have hgg' : gw ≠ gd := fun e => hgg e.symm
   have A7 := hideIt (A6.out.store (i := 5) (j := 7) rfl (.bool (rf || drf')) rfl)
   have hlw := A6.out.lt (i := 5) rfl
   have hld := A6.out.lt (i := 2) rfl
   go_upto_region 12 with fail
   go_cut [] (fun wy => Hid (M w0 B wy (.blk gr #[.int .i64 rv, .int .i64 rp, .string rt, .bool rd] 99 :: .blk ga #[.int .i64 ak, .int .i64 ap, .int .i64 av, .string at'] 94 :: LM gd kg kc gw tg tc ug uc vg vc dg dc bg bc nd k key v f (.slice ta nt tcp) nt drf' kns' ts now puts (rf || drf') wt false cv ov bs ds T' U' V' fr)))
   case first =>
     cases rf
     all_goals
       go_wp2
       go_meet
       case rel => exact A7.out
   case rest =>
    have A8 := hideIt hcut.out
    clear hcut A6 A7 g7 g5 d6 d4 e7 hlw hld
    have g5 := A8.out.cell (i := 5) rfl 5 (.int .i64 now) rfl
    have d4 := A8.out.cell (i := 2) rfl 4 (.slice ta nt tcp) rfl
    have hlw := A8.out.lt (i := 5) rfl
    have hld := A8.out.lt (i := 2) rfl
    go_upto_region 13 with fail
    go_cut [] (fun wy => ∃ tm', Hid (M w0 B wy (.blk gr #[.int .i64 rv, .int .i64 rp, .string rt, .bool rd] 99 :: .blk ga #[.int .i64 ak, .int .i64 ap, .int .i64 av, .string at'] 94 :: LM gd kg kc gw tg tc ug uc vg vc dg dc bg bc nd k key v f tm' (nt + 1) drf' kns' (ts ++ [now]) now puts (rf || drf') wt false cv ov bs ds T' U' V' fr)))
    case first =>
     go_region_law (refine step_append_lies _ rfl _ _ 22 rfl B 3 i0 (.int .i64 0) 1 8 Tryz.underlying22 hi0 hz0 hz1 hz2 rfl (by decide) _ nt (ints ts) rfl (World.ownsRow.alloc (A8.out.get (i := 4) rfl).own _) ⟨_, 0, none⟩ 1 1 [.int .i64 now] rfl rfl (by have := news_one wc (.int .i64 now) 3; simpa using this) (by simp [Value.oneCell']) (by omega) (by unfold maxLen; omega) (by omega) (by have := A8.out.sz; simp at this ⊢; omega) _ rfl ?_; intro g1 cap1 w5 hown hgrow hat hlt1; rw [← ints_snoc] at hown; have hm := (A8.out.allocd _).drew.lies (i := 4) rfl hown hgrow hat; clear g5 d4 hown hgrow hat; have d4 := hm.cell (i := 2) rfl 4 (.slice ta nt tcp) rfl; have f4 := hm.free (i := 2) rfl 4; have H1 := hideIt (hm.store (i := 2) (j := 4) rfl (.slice (some ⟨g1, 0, none⟩) (nt + 1) cap1) rfl); clear hm)
     all_goals
       go_wp2
       go_meet
       case rel => exact ⟨_, H1.out⟩
    case rest =>
     obtain ⟨tm', hM8⟩ := hcut
     clear A8 g5 d4 hlw hld
     have g5 := hM8.out.cell (i := 5) rfl 5 (.int .i64 now) rfl
     have e5 := hM8.out.free (i := 5) rfl 5
     have d3 := hM8.out.cell (i := 2) rfl 3 (.string f) rfl
     have r0 := hM8.out.cell (i := 0) rfl 0 (.int .i64 rv) rfl
     have r1 := hM8.out.cell (i := 0) rfl 1 (.int .i64 rp) rfl
     have r2 := hM8.out.cell (i := 0) rfl 2 (.string rt) rfl
     have r3 := hM8.out.cell (i := 0) rfl 3 (.bool rd) rfl
     have hgr1 := hM8.out.bne (i := 0) (j := 5) rfl rfl (by omega)
     have hgr2 : gw ≠ gr := fun e => hgr1 e.symm
     have A9 := hideIt (hM8.out.store (i := 5) (j := 5) rfl (.int .i64 (now + 1)) rfl)
     have A10 := A9.out.alloc #[.int .i64 0, .bool false, .int .i64 0, .int .i64 0, .slice none 0 0, .slice none 0 0, .slice none 0 0] 46
     rw [show (wc.setCell ⟨gw, 5, none⟩ (.int .i64 (now + 1))).heap.size = wc.heap.size by simp [World.setCell]] at A10
     replace A10 := hideIt A10
     have hgrl := hM8.out.lt (i := 0) rfl
     have hgdl := hM8.out.lt (i := 2) rfl
     have hnw1 : gd ≠ wc.heap.size := by omega
     have hnw2 : gr ≠ wc.heap.size := by omega
     have hnw3 : wc.heap.size ≠ gd := by omega
     have hnw4 : wc.heap.size ≠ gr := by omega
     go_upto_region 15 with fail
     go_cut [9, 10, 11, 12] (fun a b c d wy => ∃ gx : Nat, b = .pointer (some ⟨gx, 0, none⟩) ∧ d = .int .i64 0 ∧ (∃ f' : ByteArray, a = .string f' ∧ c = .bool false ∧ Hid (P f') ∧ Hid (M w0 B wy (.blk gx ans0 46 :: .blk gr #[.int .i64 rv, .int .i64 rp, .string rt, .bool rd] 99 :: .blk ga #[.int .i64 ak, .int .i64 ap, .int .i64 av, .string at'] 94 :: LM gd kg kc gw tg tc ug uc vg vc dg dc bg bc nd k key v f tm' (nt + 1) drf' kns' (ts ++ [now]) (now + 1) puts (rf || drf') wt false cv ov bs ds T' U' V' fr))))
     case first =>
       go_region_held3 (fun W => W.cell? ⟨gd, 3, none⟩ = some (.string f) ∧ W.cell? ⟨gr, 0, none⟩ = some (.int .i64 rv) ∧ W.cell? ⟨gr, 1, none⟩ = some (.int .i64 rp) ∧ W.cell? ⟨gr, 2, none⟩ = some (.string rt) ∧ W.cell? ⟨gr, 3, none⟩ = some (.bool rd)) (go_keep) (first
         | (go_at_call 47; refine (HTL.out _ (HT.out _ _ A9.out.drew)).mono ?_; rintro e w9 ⟨c9, rfl, hc9, hb9⟩; have hm9 := A9.out.drew.below hb9; have z3 := hm9.cell (i := 2) rfl 3 (.string f) rfl; have zr0 := hm9.cell (i := 0) rfl 0 (.int .i64 rv) rfl; have zr1 := hm9.cell (i := 0) rfl 1 (.int .i64 rp) rfl; have zr2 := hm9.cell (i := 0) rfl 2 (.string rt) rfl; have zr3 := hm9.cell (i := 0) rfl 3 (.bool rd) rfl; have zl1 := hm9.lt (i := 2) rfl; have zl2 := hm9.lt (i := 0) rfl; have HA : Hid True := trivial; have H9 := hideIt (hm9.alloc ans0 46); have HC9 := hideIt hc9; clear hb9 hc9 hm9)
         | (go_at_call 47; refine (HTL.out _ (HT.out _ _ A10.out.drew)).mono ?_; rintro e w9 ⟨c9, rfl, hc9, hb9⟩; have hm9 := A10.out.drew.below hb9; have z3 := hm9.cell (i := 3) rfl 3 (.string f) rfl; have zr0 := hm9.cell (i := 1) rfl 0 (.int .i64 rv) rfl; have zr1 := hm9.cell (i := 1) rfl 1 (.int .i64 rp) rfl; have zr2 := hm9.cell (i := 1) rfl 2 (.string rt) rfl; have zr3 := hm9.cell (i := 1) rfl 3 (.bool rd) rfl; have zl1 := hm9.lt (i := 3) rfl; have zl2 := hm9.lt (i := 1) rfl; have HB : Hid True := trivial; have x0 := hm9.cell (i := 0) rfl 0 (.int .i64 0) rfl; have y0 := hm9.free (i := 0) rfl 0; have x1 := hm9.cell (i := 0) rfl 1 (.bool false) rfl; have y1 := hm9.free (i := 0) rfl 1; have x2 := hm9.cell (i := 0) rfl 2 (.int .i64 0) rfl; have y2 := hm9.free (i := 0) rfl 2; have x3 := hm9.cell (i := 0) rfl 3 (.int .i64 0) rfl; have y3 := hm9.free (i := 0) rfl 3; have x4 := hm9.cell (i := 0) rfl 4 (.slice none 0 0) rfl; have y4 := hm9.free (i := 0) rfl 4; have x5 := hm9.cell (i := 0) rfl 5 (.slice none 0 0) rfl; have y5 := hm9.free (i := 0) rfl 5; have x6 := hm9.cell (i := 0) rfl 6 (.slice none 0 0) rfl; have y6 := hm9.free (i := 0) rfl 6; have H9 := hideIt (hm9.store7 (i := 0) rfl (.int .i64 0) (.bool false) (.int .i64 0) (.int .i64 0) (.slice none 0 0) (.slice none 0 0) (.slice none 0 0)); have HC9 := hideIt hc9; clear hm9 hb9 hc9))
       all_goals
         go_wp2
         go_meet
         case rel => first | (have := HA; exact ⟨w9.heap.size, rfl, rfl, c9, rfl, rfl, HC9.out, H9.out⟩) | (have := HB; exact ⟨wc.heap.size, rfl, rfl, c9, rfl, rfl, HC9.out, H9.out⟩)
     case rest =>
       clear A9 A10 hgrl hgdl hnw1 hnw2 hnw3 hnw4 g5 e5 d3 r0 r1 r2 r3 hgr1 hgr2 hM8
       obtain ⟨gx, rfl, rfl, f', rfl, rfl, hf', hN⟩ := hcut
       have g11 := hN.out.cell (i := 6) rfl 11 (.bool false) rfl
       have d3 := hN.out.cell (i := 3) rfl 3 (.string f) rfl
       have e3 := hN.out.free (i := 3) rfl 3
       have S1 := hideIt (hN.out.store (i := 3) (j := 3) rfl (.string f') rfl)
       clear hN
       go_wp2
       refine bodyPost_end (results_none Tryz.results28 _ _ _) rfl ⟨⟨_, rfl⟩, tm', f', hf'.out, ?_⟩
       exact ((S1.out.sub (List.sublist_cons_self _ _)).sub (List.sublist_cons_self _ _)).sub (List.sublist_cons_self _ _)
end Go.Proofs.YtajobgmnmbnhiaaGreatDoor.Sap
