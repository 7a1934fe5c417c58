/- WHAT IS PROVED HERE: saplingkeep's act, where a page is swapped (done or not) or a fresh one is asked for (given or not). Conditions: named at each theorem. -/
import Derived.Test.YtjpgldeeopmbgaaDoorA2
namespace Go.Proofs.YtjpgldeeopmbgaaDoor.Sap
open Go.RowKit

theorem set_other {l : List As} {i j : Nat} {a b : As} (h : l[j]? = some a) (hij : i ≠ j) : (l.set i b)[j]? = some a := by
  rw [List.getElem?_set, if_neg hij]; exact h

set_option maxRecDepth 100000 in
set_option maxHeartbeats 3200000 in
theorem act_swap (gw ug uc tg tc vg vc p : Nat) (t t0 : ByteArray) (ver : Int) (w0 w : World) (B iw jt ju jv : Nat) (l : List As) (c : Array Value) (T U V : List Value) (h : M w0 B w l) (hw : l[iw]? = some (.blk gw c 58))
    (c0 : c[0]? = some (.slice (some ⟨tg, 0, none⟩) 64 tc)) (c1 : c[1]? = some (.slice (some ⟨ug, 0, none⟩) 64 uc)) (c2 : c[2]? = some (.slice (some ⟨vg, 0, none⟩) 64 vc))
    (hT : l[jt]? = some (.row 9 1 (.slice (some ⟨tg, 0, none⟩) 64 tc) 64 T)) (hU : l[ju]? = some (.row 4 1 (.slice (some ⟨ug, 0, none⟩) 64 uc) 64 U)) (hV : l[jv]? = some (.row 3 1 (.slice (some ⟨vg, 0, none⟩) 64 vc) 64 V)) (hne : jt ≠ jv)
    (hp : p < 64) (hTp : T[p]? = some (.string t0)) (hUp : U[p]? = some (.bool true)) (hVp : V[p]? = some (.int .i64 ver)) (hv0 : 0 ≤ ver) (hv1 : ver ≤ 1000000000) (ht : t.size ≤ 47) :
    Calls Tryd.prog 90 #[.pointer (some ⟨gw, 0, none⟩), .agg #[.int .i64 2, .int .i64 p, .int .i64 ver, .string t]] w fun e w' => e = .returned (.agg #[.int .i64 0, .int .i64 0, .string ⟨#[]⟩, .bool true]) ∧
      M w0 B w' ((l.set jt (.row 9 1 (.slice (some ⟨tg, 0, none⟩) 64 tc) 64 (T.set p (.string t)))).set jv (.row 3 1 (.slice (some ⟨vg, 0, none⟩) 64 vc) 64 (V.set p (.int .i64 (ver + 1))))) := by
  have A0 := hideIt ((h.alloc #[.int .i64 2, .int .i64 p, .int .i64 ver, .string t] 45).alloc #[.int .i64 0, .int .i64 0, .string ⟨#[]⟩, .bool false] 86)
  rw [alloc_size] at A0
  obtain ⟨W, hW⟩ : ∃ W, (w.alloc (.cells #[.int .i64 2, .int .i64 p, .int .i64 ver, .string t] 45)).alloc (.cells #[.int .i64 0, .int .i64 0, .string ⟨#[]⟩, .bool false] 86) = W := ⟨_, rfl⟩
  have HW := hideIt hW
  rw [hW] at A0
  have K1 := hideIt (A0.out.cell (i := iw + 2) (by simpa using hw) 1 _ c1)
  have K2 := hideIt (A0.out.rowCell (i := ju + 2) (by simpa using hU) p _ hUp)
  have hp1 : (0 : Int) ≤ (p : Int) := by omega
  have hp2 : (p : Int) < 64 := by omega
  have hts : (t.size : Int) ≤ 47 := by omega
  have hvv : (ver == ver) = true := by simp
  have hvn : (ver != ver) = false := by simp
  obtain ⟨ga, hga⟩ : ∃ g, w.heap.size = g := ⟨_, rfl⟩
  rw [hga] at A0
  have HGA := hideIt hga
  clear hW hga
  go_enter Tryd.func90, Tryd.ntmps90
  go_wp2_with fail
  rw [HW.out, HGA.out]
  refine (there_yes gw ug uc p _ K1.out K2.out hp).mono ?_
  rintro e w' ⟨rfl, rfl⟩
  clear K1 K2 HW HGA
  obtain ⟨gr, hgr⟩ : ∃ g, ga + 1 = g := ⟨_, rfl⟩
  rw [hgr] at A0 ⊢
  clear hgr
  have a0 := A0.out.cell (i := 1) rfl 0 (.int .i64 2) rfl
  have a1 := A0.out.cell (i := 1) rfl 1 (.int .i64 p) rfl
  have a2 := A0.out.cell (i := 1) rfl 2 (.int .i64 ver) rfl
  have a3 := A0.out.cell (i := 1) rfl 3 (.string t) rfl
  have w0c := A0.out.cell (i := iw + 2) (by simpa using hw) 0 _ c0
  have w2c := A0.out.cell (i := iw + 2) (by simpa using hw) 2 _ c2
  have tp := A0.out.rowCell (i := jt + 2) (by simpa using hT) p _ hTp
  have vp := A0.out.rowCell (i := jv + 2) (by simpa using hV) p _ hVp
  have tf := A0.out.rowFree (i := jt + 2) (by simpa using hT) p
  have S1 : Hid (∀ d, M w0 B ((w'.drewN d).setCell ⟨tg, p, none⟩ (.string t)) (.blk gr #[.int .i64 0, .int .i64 0, .string ⟨#[]⟩, .bool false] 86 :: .blk ga #[.int .i64 2, .int .i64 p, .int .i64 ver, .string t] 45 :: l.set jt (.row 9 1 (.slice (some ⟨tg, 0, none⟩) 64 tc) 64 (T.set p (.string t))))) := fun d => (A0.out.drewN d).storeRow (i := jt + 2) (j := p) (by simpa using hT) (.string t)
  obtain ⟨l1, hl1⟩ : ∃ x, l.set jt (.row 9 1 (.slice (some ⟨tg, 0, none⟩) 64 tc) 64 (T.set p (.string t))) = x := ⟨_, rfl⟩
  have hV1 : Hid (l1[jv]? = some (.row 3 1 (.slice (some ⟨vg, 0, none⟩) 64 vc) 64 V)) := by unfold Hid; rw [← hl1]; exact set_other hV hne
  have hw1 : Hid (∃ c', l1[iw]? = some (.blk gw c' 58) ∧ c'[2]? = some (.slice (some ⟨vg, 0, none⟩) 64 vc)) := by
    have : jt ≠ iw := fun e => by rw [e, hw] at hT; cases hT
    unfold Hid; rw [← hl1]; exact ⟨c, set_other hw this, c2⟩
  rw [hl1] at S1
  have HL1 := hideIt hl1
  have HVP := hideIt hVp
  clear hl1 hT hU hV hw c0 c1 c2 h hTp hUp hVp hne
  go_wp2
  go_quiet (fail)
  go_upto_region 11 with fail
  go_cut [] (fun wy => Hid (M w0 B wy (.blk gr #[.int .i64 0, .int .i64 0, .string ⟨#[]⟩, .bool false] 86 :: .blk ga #[.int .i64 2, .int .i64 p, .int .i64 ver, .string t] 45 :: l1)))
  case first =>
    go_region
    all_goals
      go_wp2
      go_meet
      case rel => exact S1.out (nq + 1)
  case rest =>
    clear A0 a0 a1 a2 a3 w0c w2c tp vp tf S1
    obtain ⟨c', hw1, hc'⟩ := hw1.out
    have a1 := hcut.out.cell (i := 1) rfl 1 (.int .i64 p) rfl
    have w2c := hcut.out.cell (i := iw + 2) (by simpa using hw1) 2 _ hc'
    have vp := hcut.out.rowCell (i := jv + 2) (by simpa using hV1.out) p _ HVP.out
    have vf := hcut.out.rowFree (i := jv + 2) (by simpa using hV1.out) p
    have S2 : Hid (∀ d, M w0 B ((wc.drewN d).setCell ⟨vg, p, none⟩ (.int .i64 (ver + 1))) (.blk gr #[.int .i64 0, .int .i64 0, .string ⟨#[]⟩, .bool false] 86 :: .blk ga #[.int .i64 2, .int .i64 p, .int .i64 ver, .string t] 45 :: l1.set jv (.row 3 1 (.slice (some ⟨vg, 0, none⟩) 64 vc) 64 (V.set p (.int .i64 (ver + 1)))))) := fun d => (hcut.out.drewN d).storeRow (i := jv + 2) (j := p) (by simpa using hV1.out) (.int .i64 (ver + 1))
    go_upto_region 12 with fail
    go_cut [] (fun wy => Hid (M w0 B wy (.blk gr #[.int .i64 0, .int .i64 0, .string ⟨#[]⟩, .bool false] 86 :: .blk ga #[.int .i64 2, .int .i64 p, .int .i64 ver, .string t] 45 :: l1.set jv (.row 3 1 (.slice (some ⟨vg, 0, none⟩) 64 vc) 64 (V.set p (.int .i64 (ver + 1)))))))
    case first =>
      clear hcut hw1 hc'
      go_region
      all_goals
        go_wp2
        go_meet
        case rel => exact S2.out 1
    case rest =>
      have HN := hideIt hcut.out
      clear hcut hw1 hc' a1 w2c vp vf S2
      have r0 := HN.out.cell (i := 0) rfl 0 (.int .i64 0) rfl
      have r1 := HN.out.cell (i := 0) rfl 1 (.int .i64 0) rfl
      have r2 := HN.out.cell (i := 0) rfl 2 (.string ⟨#[]⟩) rfl
      have r3 := HN.out.cell (i := 0) rfl 3 (.bool false) rfl
      have f0 := HN.out.free (i := 0) rfl 0
      have f1 := HN.out.free (i := 0) rfl 1
      have f2 := HN.out.free (i := 0) rfl 2
      have f3 := HN.out.free (i := 0) rfl 3
      have S4 := hideIt ((((HN.out.store (i := 0) (j := 0) rfl (.int .i64 0) rfl).store (i := 0) (j := 1) rfl (.int .i64 0) rfl).store (i := 0) (j := 2) rfl (.string ⟨#[]⟩) rfl).store (i := 0) (j := 3) rfl (.bool true) rfl)
      clear HN
      go_wp2
      refine bodyPost_ret (v := .agg #[.int .i64 0, .int .i64 0, .string ⟨#[]⟩, .bool true]) (by simp [results, Tryd.results90, go_sem, *]) rfl ⟨rfl, ?_⟩
      rw [HL1.out]
      exact (S4.out.sub (List.sublist_cons_self _ _)).sub (List.sublist_cons_self _ _)
end Go.Proofs.YtjpgldeeopmbgaaDoor.Sap
