/- WHAT IS PROVED HERE: saplingkeep's took: the Puts and Drops that took effect, in the order of their Points. Conditions: all operations have ended, and the Point of each is one of its accesses. -/
import Derived.Test.YtjpgldeeopmbgaaDoorK3
namespace Go.Proofs.YtjpgldeeopmbgaaDoor.Sap
open Go.RowKit

/-- What an operation that has ended did, and when. -/
def tkD (d : Dd) : Option Dn := if (d.k = 2 ∨ d.k = 3) ∧ d.er = 0 then some ⟨d.ts[d.pt.toNat]?.getD 0, d.k, d.key, d.v⟩ else none
def tkL (ds : List Dd) : List Dn := ds.filterMap tkD
/-- It has ended, and its Point is one of its accesses. -/
def Dd.over (d : Dd) : Prop := d.en = true ∧ ∃ p : Nat, d.pt = (p : Int) ∧ p < d.ts.length ∧ d.ts.length ≤ 100000000

theorem tkL_succ (ds : List Dd) (i : Nat) (d : Dd) (h : ds[i]? = some d) : tkL (ds.take (i + 1)) = tkL (ds.take i) ++ (tkD d).toList := by
  unfold tkL
  rw [List.take_add_one, h, Option.toList_some, List.filterMap_append]
  cases hd : tkD d <;> simp [hd]

/-- A deed's memory, brought to the front. -/
theorem M.deed {w0 w : World} {B i : Nat} {x : Wd} {d : Dd} {pre fr : List As} (h : M w0 B w (pre ++ (x.as ++ fr))) (hd : x.ds[i]? = some d) : M w0 B w (d.hd ++ (x.hd ++ (d.tl ++ ((x.ds.take i).flatMap Dd.as ++ ((x.ds.drop (i + 1)).flatMap Dd.as ++ (fr ++ pre)))))) := by
  have h1 := h.perm (l' := (x.as ++ (fr ++ pre))) (by rw [← List.append_assoc]; exact List.perm_append_comm)
  unfold Wd.as at h1
  rw [x.split i d hd] at h1
  exact h1.perm (perm_deed _ _ _ _ _ _)

set_option maxRecDepth 100000 in
set_option maxHeartbeats 6400000 in
theorem took_any (x : Wd) (fr : List As) (w0 w : World) (B : Nat) (hov : ∀ d ∈ x.ds, d.over) (hnd : x.ds.length ≤ 100000000) (h : M w0 B w (x.as ++ fr)) :
    Calls Tryd.prog 68 #[.pointer (some ⟨x.gw, 0, none⟩)] w fun e w' => ∃ ov, e = .returned ov ∧ ∃ out, out.Perm (tkL x.ds) ∧ Srt out ∧ M w0 B w' (.row 119 4 ov out.length (dnc out) :: (x.as ++ fr)) := by
  obtain ⟨j0, hj0, hy0, hy1, hy2⟩ := info_parts infoDone
  obtain ⟨da, dc, hdv⟩ := As.form0 (h.get (i := 2) rfl)
  obtain ⟨n, hn⟩ : ∃ n, x.ds.length = n := ⟨_, rfl⟩
  have HN := hideIt hn
  have HDV := hideIt hdv
  have HOV := hideIt hov
  have A0 := hideIt (M.nil2 (e := 119) (z := 4) (l1 := []) h)
  rw [hn] at hdv hnd
  clear h hov
  go_enter Tryd.func68, Tryd.ntmps68
  go_wp2
  go_loopw [3, 4] (fun ov vi wr => ∃ (i m : Nat), vi = .int .i64 i ∧ i ≤ n ∧ Hid ((tkL (x.ds.take i)).length = m) ∧ m ≤ i ∧ Hid (M w0 B wr (.row 119 4 ov m (dnc (tkL (x.ds.take i))) :: (x.as ++ fr)))) (fun _ vi _ => n - (intOf vi).toNat)
  case atStart => exact ⟨0, 0, rfl, by omega, rfl, by omega, A0.out⟩
  case round =>
    clear A0
    obtain ⟨i, m, rfl, hi, hml, hm, hM⟩ := hrel
    obtain ⟨oa, oc, rfl⟩ := As.form0 (hM.out.get (i := 0) rfl)
    have g3 := hM.out.cell (i := 1) rfl 3 (.slice da n dc) (by rw [← hdv]; rfl)
    have hi0 : (0 : Int) ≤ (i : Int) := by omega
    by_cases hlt : i < n
    · have hin : (i : Int) < (n : Int) := by omega
      obtain ⟨d, hd⟩ : ∃ d, x.ds[i]? = some d := ⟨_, List.getElem?_eq_getElem (by rw [HN.out]; exact hlt)⟩
      obtain ⟨gg, cc, hda⟩ := As.form (hM.out.get (i := 3) rfl) (show 0 < x.ds.length by rw [HN.out]; omega)
      have hda2 : da = some ⟨gg, 0, none⟩ := by rw [hdv] at hda; injection hda
      subst hda2
      have R := hM.out.get (i := 3) rfl
      rw [hdv, HN.out] at R
      have dp := World.ownsRow.cellAt R.own i (by omega)
      rw [List.getElem?_map, hd] at dp
      have dp' : wr.cell? ⟨gg, i, none⟩ = some (.pointer (some ⟨d.gd, 0, none⟩)) := dp
      have D := M.deed (pre := [_]) hM.out hd
      obtain ⟨hen, p, hpt, hp1, hp2⟩ := HOV.out d (List.mem_of_getElem? hd)
      have e0 := D.cell (i := 0) rfl 0 (.int .i64 d.k) rfl
      have e1 := D.cell (i := 0) rfl 1 (.int .i64 d.key) rfl
      have e2 := D.cell (i := 0) rfl 2 (.int .i64 d.v) rfl
      have e4 := D.cell (i := 0) rfl 4 d.tm rfl
      have e7 := D.cell (i := 0) rfl 7 (.bool d.en) rfl
      have e8 := D.cell (i := 0) rfl 8 (.int .i64 d.er) rfl
      have e11 := D.cell (i := 0) rfl 11 (.int .i64 d.pt) rfl
      have RT := owns_rd (D.get (i := 2) rfl).own
      have CP := hideIt (point_yes d.gd d.tm d.ts p wr e4 RT hp1)
      have TS := hideIt (tkL_succ x.ds i d hd)
      obtain ⟨tt, htt⟩ : ∃ y, d.ts[p]?.getD 0 = y := ⟨_, rfl⟩
      have HTK : Hid (tkD d = if (d.k = 2 ∨ d.k = 3) ∧ d.er = 0 then some ⟨tt, d.k, d.key, d.v⟩ else none) := by
        unfold Hid tkD; rw [hpt, Int.toNat_natCast, htt]
      rw [htt] at CP
      rw [hen] at e7
      rw [hpt] at e11
      obtain ⟨gd, hgd⟩ : ∃ y, d.gd = y := ⟨_, rfl⟩
      obtain ⟨dk, hdk⟩ : ∃ y, d.k = y := ⟨_, rfl⟩
      obtain ⟨dkey, hdkey⟩ : ∃ y, d.key = y := ⟨_, rfl⟩
      obtain ⟨dv, hdvv⟩ : ∃ y, d.v = y := ⟨_, rfl⟩
      obtain ⟨er, her⟩ : ∃ y, d.er = y := ⟨_, rfl⟩
      rw [hgd] at dp' CP e0 e1 e2 e7 e8 e11
      rw [hdk] at e0 HTK
      rw [hdkey] at e1 HTK
      rw [hdvv] at e2 HTK
      rw [her] at e8 HTK
      have hlg : gd < wr.heap.size := lt_of_cell e0
      clear dp R D RT hen hpt hp1 hp2 e4 hda hgd hdk hdkey hdvv her htt hd
      go_wp2_with fail
      refine CP.out.mono ?_
      rintro e w1 ⟨rfl, hb⟩
      have hN := hideIt (hM.out.below hb)
      have d0 := cell_below hb _ _ e0
      have d1 := cell_below hb _ _ e1
      have d2 := cell_below hb _ _ e2
      have d7 := cell_below hb _ _ e7
      have d8 := cell_below hb _ _ e8
      have hlg1 : gd < w1.heap.size := lt_of_cell d0
      clear CP hM e0 e1 e2 e7 e8 e11 dp' g3 hb hlg
      rcases (show dk = 2 ∨ dk = 3 ∨ (dk ≠ 2 ∧ dk ≠ 3) by omega) with hk | hk | hk
      · subst hk
        by_cases her : er = 0
        · have heb : (er == 0) = true := by simp [her]
          have HT1 : Hid (dnc (tkL (x.ds.take (i + 1))) = dnc (tkL (x.ds.take i)) ++ [.int .i64 tt, .int .i64 2, .int .i64 dkey, .int .i64 dv]) := by
            unfold Hid; rw [TS.out, HTK.out, if_pos ⟨by omega, her⟩, Option.toList_some, dnc_snoc]
          have HT2 : Hid ((tkL (x.ds.take (i + 1))).length = m + 1) := by
            unfold Hid; rw [TS.out, HTK.out, if_pos ⟨by omega, her⟩, Option.toList_some, List.length_append, hml.out]; rfl
          clear her
          go_wp2_with (at_builtin; refine wpList_append_lies _ rfl _ _ 56 rfl B 119 j0 (.agg #[.int .i64 0, .int .i64 0, .int .i64 0, .int .i64 0]) 4 32 Tryd.underlying56 hj0 hy0 hy1 hy2 rfl (by decide) _ m (dnc (tkL (x.ds.take i))) rfl (World.ownsRow.alloc (hN.out.get (i := 0) rfl).own _) ⟨_, 0, none⟩ 1 1 [.int .i64 tt, .int .i64 2, .int .i64 dkey, .int .i64 dv] rfl rfl (World.news_of_block (heap_alloc_new _ _)) (by simp [Value.oneCell']) (by omega) (by unfold maxLen; omega) (by omega) (by have := hN.out.sz; simp at this ⊢; omega) _ rfl ?_; intro g1 cap1 w5 hown hgrow hat hlt1; rw [← HT1.out] at hown; have H1 := hideIt ((hN.out.allocd _).lies (i := 0) rfl hown hgrow hat); clear hown hgrow hat)
          go_roundw
          case rel => exact ⟨i + 1, m + 1, by go_num, by omega, HT2.out, by omega, H1.out⟩
          case measure => simp [intOf]; omega
        · have heb : (er == 0) = false := by simp [her]
          have HT1 : Hid (tkL (x.ds.take (i + 1)) = tkL (x.ds.take i)) := by
            unfold Hid; rw [TS.out, HTK.out, if_neg (fun h => her h.2), Option.toList_none, List.append_nil]
          clear her
          go_wp2
          go_roundw
          case rel => exact ⟨i + 1, m, by go_num, by omega, by unfold Hid; rw [HT1.out]; exact hml.out, by omega, by unfold Hid; rw [HT1.out]; exact hN.out⟩
          case measure => simp [intOf]; omega
      · subst hk
        by_cases her : er = 0
        · have heb : (er == 0) = true := by simp [her]
          have HT1 : Hid (dnc (tkL (x.ds.take (i + 1))) = dnc (tkL (x.ds.take i)) ++ [.int .i64 tt, .int .i64 3, .int .i64 dkey, .int .i64 dv]) := by
            unfold Hid; rw [TS.out, HTK.out, if_pos ⟨by omega, her⟩, Option.toList_some, dnc_snoc]
          have HT2 : Hid ((tkL (x.ds.take (i + 1))).length = m + 1) := by
            unfold Hid; rw [TS.out, HTK.out, if_pos ⟨by omega, her⟩, Option.toList_some, List.length_append, hml.out]; rfl
          clear her
          go_wp2_with (at_builtin; refine wpList_append_lies _ rfl _ _ 56 rfl B 119 j0 (.agg #[.int .i64 0, .int .i64 0, .int .i64 0, .int .i64 0]) 4 32 Tryd.underlying56 hj0 hy0 hy1 hy2 rfl (by decide) _ m (dnc (tkL (x.ds.take i))) rfl (World.ownsRow.alloc (hN.out.get (i := 0) rfl).own _) ⟨_, 0, none⟩ 1 1 [.int .i64 tt, .int .i64 3, .int .i64 dkey, .int .i64 dv] rfl rfl (World.news_of_block (heap_alloc_new _ _)) (by simp [Value.oneCell']) (by omega) (by unfold maxLen; omega) (by omega) (by have := hN.out.sz; simp at this ⊢; omega) _ rfl ?_; intro g1 cap1 w5 hown hgrow hat hlt1; rw [← HT1.out] at hown; have H1 := hideIt ((hN.out.allocd _).lies (i := 0) rfl hown hgrow hat); clear hown hgrow hat)
          go_roundw
          case rel => exact ⟨i + 1, m + 1, by go_num, by omega, HT2.out, by omega, H1.out⟩
          case measure => simp [intOf]; omega
        · have heb : (er == 0) = false := by simp [her]
          have HT1 : Hid (tkL (x.ds.take (i + 1)) = tkL (x.ds.take i)) := by
            unfold Hid; rw [TS.out, HTK.out, if_neg (fun h => her h.2), Option.toList_none, List.append_nil]
          clear her
          go_wp2
          go_roundw
          case rel => exact ⟨i + 1, m, by go_num, by omega, by unfold Hid; rw [HT1.out]; exact hml.out, by omega, by unfold Hid; rw [HT1.out]; exact hN.out⟩
          case measure => simp [intOf]; omega
      · have hk2 : (dk == 2) = false := by simp [hk.1]
        have hk3 : (dk == 3) = false := by simp [hk.2]
        have HT1 : Hid (tkL (x.ds.take (i + 1)) = tkL (x.ds.take i)) := by
          unfold Hid; rw [TS.out, HTK.out, if_neg (fun h => by have := h.1; omega), Option.toList_none, List.append_nil]
        clear hk
        go_wp2
        go_roundw
        case rel => exact ⟨i + 1, m, by go_num, by omega, by unfold Hid; rw [HT1.out]; exact hml.out, by omega, by unfold Hid; rw [HT1.out]; exact hN.out⟩
        case measure => simp [intOf]; omega
    · obtain rfl : i = n := by omega
      have hT : Hid (tkL (x.ds.take i) = tkL x.ds) := by unfold Hid; rw [List.take_of_length_le (by rw [HN.out]; omega)]
      rw [hT.out] at hM hml
      go_wp2
      clear g3
      go_loopw [3, 9] (fun lv vw wr => ∃ (W : Nat) (out : List Dn), vw = .int .i64 W ∧ 1 ≤ W ∧ W ≤ 2 * i + 1 ∧ Hid (out.Perm (tkL x.ds)) ∧ Hid (Blk W out) ∧ Hid (M w0 B wr (.row 119 4 lv m (dnc out) :: (x.as ++ fr)))) (fun _ vw _ => 2 * i + 2 - (intOf vw).toNat)
      case atStart => exact ⟨1, tkL x.ds, rfl, by omega, by omega, List.Perm.refl _, blk_one _, hM.out⟩
      case round =>
        clear hM
        obtain ⟨W, out, rfl, hW1, hW2, hp, hbk, hM⟩ := hrel
        obtain ⟨oa2, oc2, rfl⟩ := As.form0 (hM.out.get (i := 0) rfl)
        have hol : Hid (out.length = m) := by unfold Hid; rw [hp.out.length_eq]; exact hml.out
        by_cases hlt2 : W < m
        · have hWm : (W : Int) < (m : Int) := by omega
          have CM := hideIt (merged_any (.slice oa2 m oc2) out W m (x.as ++ fr) w0 _ B hol.out (by omega) hW1 (by omega) hbk.out hM.out)
          clear hM
          go_wp2_with fail
          refine CM.out.mono ?_
          rintro e w1 ⟨ov, rfl, out2, hp2, hb2, hM2⟩
          have HP2 := hideIt (hp2.trans hp.out)
          have HB2 := hideIt hb2
          have HM2 := hideIt (hM2.sub (List.Sublist.cons_cons _ (List.sublist_cons_self _ _)))
          clear CM hp2 hb2 hM2
          go_wp2
          go_roundw
          case rel => exact ⟨2 * W, out2, by go_num, by omega, by omega, HP2.out, HB2.out, HM2.out⟩
          case measure => simp [intOf]; omega
        · have hWm : ¬ (W : Int) < (m : Int) := by omega
          have HS := hideIt (blk_all hbk.out (by rw [hol.out]; omega))
          have hM3 : Hid (M w0 B wr (.row 119 4 (.slice oa2 m oc2) out.length (dnc out) :: (x.as ++ fr))) := by unfold Hid; rw [hol.out]; exact hM.out
          clear hM
          go_wp2
          go_ret
          exact ⟨_, rfl, out, hp.out, HS.out, hM3.out⟩
end Go.Proofs.YtjpgldeeopmbgaaDoor.Sap
