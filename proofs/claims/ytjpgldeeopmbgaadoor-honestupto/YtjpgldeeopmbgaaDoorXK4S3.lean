/- WHAT IS PROVED HERE: saplingkeep's took: the Puts and Drops that took effect, in the order of their Points. Conditions: all operations have ended, and the Point of each is one of its accesses. -/
import Derived.Test.YtjpgldeeopmbgaaDoorXS2B3
import Derived.Test.YtjpgldeeopmbgaaDoorXN3K3
namespace Go.Proofs.YtjpgldeeopmbgaaDoor.Sap
open Go.RowKit

/-- What an operation that has ended did, and when. -/
def tkD (d : Dd) : Option Dn := if (d.k = 2 ∨ d.k = 3) ∧ d.er = 0 then some ⟨d.ts[d.pt.toNat]?.getD 0, d.k, d.key, d.v⟩ else none
def tkL (ds : List Dd) : List Dn := ds.filterMap tkD
/-- It has ended, and its Point is one of its accesses. -/
def Dd.over (d : Dd) : Prop := d.en = true ∧ ∃ p : Nat, d.pt = (p : Int) ∧ p < d.ts.length ∧ d.ts.length ≤ 100000000

theorem tkL_succ (ds : List Dd) (i : Nat) (d : Dd) (h : ds[i]? = some d) : tkL (ds.take (i + 1)) = tkL (ds.take i) ++ (tkD d).toList := by
  unfold tkL
  rw [List.take_add_one, h, Option.toList_some, List.filterMap_append]
  cases hd : tkD d <;> simp [hd]

/-- A deed's memory, brought to the front. -/
theorem M.deed {w0 w : World} {B i : Nat} {x : Wd} {d : Dd} {pre fr : List As} (h : M w0 B w (pre ++ (x.as ++ fr))) (hd : x.ds[i]? = some d) : M w0 B w (d.hd ++ (x.hd ++ (d.tl ++ ((x.ds.take i).flatMap Dd.as ++ ((x.ds.drop (i + 1)).flatMap Dd.as ++ (fr ++ pre)))))) := by
  have h1 := h.perm (l' := (x.as ++ (fr ++ pre))) (by rw [← List.append_assoc]; exact List.perm_append_comm)
  unfold Wd.as at h1
  rw [x.split i d hd] at h1
  exact h1.perm (perm_deed _ _ _ _ _ _)

set_option maxRecDepth 100000 in
set_option maxHeartbeats 6400000 in
theorem took_any (x : Wd) (fr : List As) (w0 w : World) (B : Nat) (hov : ∀ d ∈ x.ds, d.over) (hnd : x.ds.length ≤ 100000000) (h : M w0 B w (x.as ++ fr)) :
    Calls Tryd.prog 68 #[.pointer (some ⟨x.gw, 0, none⟩)] w fun e w' => ∃ ov, e = .returned ov ∧ ∃ out, out.Perm (tkL x.ds) ∧ Srt out ∧ M w0 B w' (.row 119 4 ov out.length (dnc out) :: (x.as ++ fr)) := by
  obtain ⟨j0, hj0, hy0, hy1, hy2⟩ := info_parts infoDone
  obtain ⟨da, dc, hdv⟩ := As.form0 (h.get (i := 2) rfl)
  obtain ⟨n, hn⟩ : ∃ n, x.ds.length = n := ⟨_, rfl⟩
  have HN := hideIt hn
  have HDV := hideIt hdv
  have HOV := hideIt hov
  have A0 := hideIt (M.nil2 (e := 119) (z := 4) (l1 := []) h)
  rw [hn] at hdv hnd
  clear h hov
  go_enter Tryd.func68, Tryd.ntmps68
  go_wp2
  go_loopw [3, 4] (fun ov vi wr => ∃ (i m : Nat), vi = .int .i64 i ∧ i ≤ n ∧ Hid ((tkL (x.ds.take i)).length = m) ∧ m ≤ i ∧ Hid (M w0 B wr (.row 119 4 ov m (dnc (tkL (x.ds.take i))) :: (x.as ++ fr)))) (fun _ vi _ => n - (intOf vi).toNat)
  case atStart => exact ⟨0, 0, rfl, by omega, rfl, by omega, A0.out⟩
  case round =>
    clear A0
    obtain ⟨i, m, rfl, hi, hml, hm, hM⟩ := hrel
    obtain ⟨oa, oc, rfl⟩ := As.form0 (hM.out.get (i := 0) rfl)
    have g3 := hM.out.cell (i := 1) rfl 3 (.slice da n dc) (by rw [← hdv]; rfl)
    have hi0 : (0 : Int) ≤ (i : Int) := by omega
    by_cases hlt : i < n
    · have hin : (i : Int) < (n : Int) := by omega
      obtain ⟨d, hd⟩ : ∃ d, x.ds[i]? = some d := ⟨_, List.getElem?_eq_getElem (by rw [HN.out]; exact hlt)⟩
      obtain ⟨gg, cc, hda⟩ := As.form (hM.out.get (i := 3) rfl) (show 0 < x.ds.length by rw [HN.out]; omega)
      have hda2 : da = some ⟨gg, 0, none⟩ := by rw [hdv] at hda; injection hda
      subst hda2
      have R := hM.out.get (i := 3) rfl
      rw [hdv, HN.out] at R
      have dp := World.ownsRow.cellAt R.own i (by omega)
      rw [List.getElem?_map, hd] at dp
      have dp' : wr.cell? ⟨gg, i, none⟩ = some (.pointer (some ⟨d.gd, 0, none⟩)) := dp
      have D := M.deed (pre := [_]) hM.out hd
      obtain ⟨hen, p, hpt, hp1, hp2⟩ := HOV.out d (List.mem_of_getElem? hd)
      have e0 := D.cell (i := 0) rfl 0 (.int .i64 d.k) rfl
      have e1 := D.cell (i := 0) rfl 1 (.int .i64 d.key) rfl
      have e2 := D.cell (i := 0) rfl 2 (.int .i64 d.v) rfl
      have e4 := D.cell (i := 0) rfl 4 d.tm rfl
      have e7 := D.cell (i := 0) rfl 7 (.bool d.en) rfl
      have e8 := D.cell (i := 0) rfl 8 (.int .i64 d.er) rfl
      have e11 := D.cell (i := 0) rfl 11 (.int .i64 d.pt) rfl
      have RT := owns_rd (D.get (i := 2) rfl).own
      have CP := hideIt (point_yes d.gd d.tm d.ts p wr e4 RT hp1)
      have TS := hideIt (tkL_succ x.ds i d hd)
      obtain ⟨tt, htt⟩ : ∃ y, d.ts[p]?.getD 0 = y := ⟨_, rfl⟩
      have HTK : Hid (tkD d = if (d.k = 2 ∨ d.k = 3) ∧ d.er = 0 then some ⟨tt, d.k, d.key, d.v⟩ else none) := by
        unfold Hid tkD; rw [hpt, Int.toNat_natCast, htt]
      rw [htt] at CP
      rw [hen] at e7
      rw [hpt] at e11
      obtain ⟨gd, hgd⟩ : ∃ y, d.gd = y := ⟨_, rfl⟩
      obtain ⟨dk, hdk⟩ : ∃ y, d.k = y := ⟨_, rfl⟩
      obtain ⟨dkey, hdkey⟩ : ∃ y, d.key = y := ⟨_, rfl⟩
      obtain ⟨dv, hdvv⟩ : ∃ y, d.v = y := ⟨_, rfl⟩
      obtain ⟨er, her⟩ : ∃ y, d.er = y := ⟨_, rfl⟩
      rw [hgd] at dp' CP e0 e1 e2 e7 e8 e11
      rw [hdk] at e0 HTK
      rw [hdkey] at e1 HTK
      rw [hdvv] at e2 HTK
      rw [her] at e8 HTK
      have hlg : gd < wr.heap.size := lt_of_cell e0
      clear dp R D RT hen hpt hp1 hp2 e4 hda hgd hdk hdkey hdvv her htt hd
      go_wp2_with fail
      refine CP.out.mono ?_
      rintro e w1 ⟨rfl, hb⟩
      have hN := hideIt (hM.out.below hb)
      have d0 := cell_below hb _ _ e0
      have d1 := cell_below hb _ _ e1
      have d2 := cell_below hb _ _ e2
      have d7 := cell_below hb _ _ e7
      have d8 := cell_below hb _ _ e8
      have hlg1 : gd < w1.heap.size := lt_of_cell d0
      clear CP hM e0 e1 e2 e7 e8 e11 dp' g3 hb hlg
      rcases (show dk = 2 ∨ dk = 3 ∨ (dk ≠ 2 ∧ dk ≠ 3) by omega) with hk | hk | hk
      · subst hk
        by_cases her : er = 0
        · have heb : (er == 0) = true := by simp [her]
          have HT1 : Hid (dnc (tkL (x.ds.take (i + 1))) = dnc (tkL (x.ds.take i)) ++ [.int .i64 tt, .int .i64 2, .int .i64 dkey, .int .i64 dv]) := by
            unfold Hid; rw [TS.out, HTK.out, if_pos ⟨by omega, her⟩, Option.toList_some, dnc_snoc]
          have HT2 : Hid ((tkL (x.ds.take (i + 1))).length = m + 1) := by
            unfold Hid; rw [TS.out, HTK.out, if_pos ⟨by omega, her⟩, Option.toList_some, List.length_append, hml.out]; rfl
          clear her
          go_wp2_with (at_builtin; refine wpList_append_lies _ rfl _ _ 56 rfl B 119 j0 (.agg #[.int .i64 0, .int .i64 0, .int .i64 0, .int .i64 0]) 4 32 Tryd.underlying56 hj0 hy0 hy1 hy2 rfl (by decide) _ m (dnc (tkL (x.ds.take i))) rfl (World.ownsRow.alloc (hN.out.get (i := 0) rfl).own _) ⟨_, 0, none⟩ 1 1 [.int .i64 tt, .int .i64 2, .int .i64 dkey, .int .i64 dv] rfl rfl (World.news_of_block (heap_alloc_new _ _)) (by simp [Value.oneCell']) (by omega) (by unfold maxLen; omega) (by omega) (by have := hN.out.sz; simp at this ⊢; omega) _ rfl ?_; intro g1 cap1 w5 hown hgrow hat hlt1; rw [← HT1.out] at hown; have H1 := hideIt ((hN.out.allocd _).lies (i := 0) rfl hown hgrow hat); clear hown hgrow hat)
          go_roundw
          case rel => exact ⟨i + 1, m + 1, by go_num, by omega, HT2.out, by omega, H1.out⟩
          case measure => simp [intOf]; omega
        · have heb : (er == 0) = false := by simp [her]
          have HT1 : Hid (tkL (x.ds.take (i + 1)) = tkL (x.ds.take i)) := by
            unfold Hid; rw [TS.out, HTK.out, if_neg (fun h => her h.2), Option.toList_none, List.append_nil]
          clear her
          go_wp2
          go_roundw
          case rel => exact ⟨i + 1, m, by go_num, by omega, by unfold Hid; rw [HT1.out]; exact hml.out, by omega, by unfold Hid; rw [HT1.out]; exact hN.out⟩
          case measure => simp [intOf]; omega
      · subst hk
        by_cases her : er = 0
        · have heb : (er == 0) = true := by simp [her]
          have HT1 : Hid (dnc (tkL (x.ds.take (i + 1))) = dnc (tkL (x.ds.take i)) ++ [.int .i64 tt, .int .i64 3, .int .i64 dkey, .int .i64 dv]) := by
            unfold Hid; rw [TS.out, HTK.out, if_pos ⟨by omega, her⟩, Option.toList_some, dnc_snoc]
          have HT2 : Hid ((tkL (x.ds.take (i + 1))).length = m + 1) := by
            unfold Hid; rw [TS.out, HTK.out, if_pos ⟨by omega, her⟩, Option.toList_some, List.length_append, hml.out]; rfl
          clear her
          go_wp2_with (at_builtin; refine wpList_append_lies _ rfl _ _ 56 rfl B 119 j0 (.agg #[.int .i64 0, .int .i64 0, .int .i64 0, .int .i64 0]) 4 32 Tryd.underlying56 hj0 hy0 hy1 hy2 rfl (by decide) _ m (dnc (tkL (x.ds.take i))) rfl (World.ownsRow.alloc (hN.out.get (i := 0) rfl).own _) ⟨_, 0, none⟩ 1 1 [.int .i64 tt, .int .i64 3, .int .i64 dkey, .int .i64 dv] rfl rfl (World.news_of_block (heap_alloc_new _ _)) (by simp [Value.oneCell']) (by omega) (by unfold maxLen; omega) (by omega) (by have := hN.out.sz; simp at this ⊢; omega) _ rfl ?_; intro g1 cap1 w5 hown hgrow hat hlt1; rw [← HT1.out] at hown; have H1 := hideIt ((hN.out.allocd _).lies (i := 0) rfl hown hgrow hat); clear hown hgrow hat)
          go_roundw
          case rel => exact ⟨i + 1, m + 1, by go_num, by omega, HT2.out, by omega, H1.out⟩
          case measure => simp [intOf]; omega
        · have heb : (er == 0) = false := by simp [her]
          have HT1 : Hid (tkL (x.ds.take (i + 1)) = tkL (x.ds.take i)) := by
            unfold Hid; rw [TS.out, HTK.out, if_neg (fun h => her h.2), Option.toList_none, List.append_nil]
          clear her
          go_wp2
          go_roundw
          case rel => exact ⟨i + 1, m, by go_num, by omega, by unfold Hid; rw [HT1.out]; exact hml.out, by omega, by unfold Hid; rw [HT1.out]; exact hN.out⟩
          case measure => simp [intOf]; omega
      · have hk2 : (dk == 2) = false := by simp [hk.1]
        have hk3 : (dk == 3) = false := by simp [hk.2]
        have HT1 : Hid (tkL (x.ds.take (i + 1)) = tkL (x.ds.take i)) := by
          unfold Hid; rw [TS.out, HTK.out, if_neg (fun h => by have := h.1; omega), Option.toList_none, List.append_nil]
        clear hk
        go_wp2
        go_roundw
        case rel => exact ⟨i + 1, m, by go_num, by omega, by unfold Hid; rw [HT1.out]; exact hml.out, by omega, by unfold Hid; rw [HT1.out]; exact hN.out⟩
        case measure => simp [intOf]; omega
    · obtain rfl : i = n := by omega
      have hT : Hid (tkL (x.ds.take i) = tkL x.ds) := by unfold Hid; rw [List.take_of_length_le (by rw [HN.out]; omega)]
      rw [hT.out] at hM hml
      go_wp2
      clear g3
      go_loopw [3, 9] (fun lv vw wr => ∃ (W : Nat) (out : List Dn), vw = .int .i64 W ∧ 1 ≤ W ∧ W ≤ 2 * i + 1 ∧ Hid (out.Perm (tkL x.ds)) ∧ Hid (Blk W out) ∧ Hid (M w0 B wr (.row 119 4 lv m (dnc out) :: (x.as ++ fr)))) (fun _ vw _ => 2 * i + 2 - (intOf vw).toNat)
      case atStart => exact ⟨1, tkL x.ds, rfl, by omega, by omega, List.Perm.refl _, blk_one _, hM.out⟩
      case round =>
        clear hM
        obtain ⟨W, out, rfl, hW1, hW2, hp, hbk, hM⟩ := hrel
        obtain ⟨oa2, oc2, rfl⟩ := As.form0 (hM.out.get (i := 0) rfl)
        have hol : Hid (out.length = m) := by unfold Hid; rw [hp.out.length_eq]; exact hml.out
        by_cases hlt2 : W < m
        · have hWm : (W : Int) < (m : Int) := by omega
          have CM := hideIt (merged_any (.slice oa2 m oc2) out W m (x.as ++ fr) w0 _ B hol.out (by omega) hW1 (by omega) hbk.out hM.out)
          clear hM
          go_wp2_with fail
          refine CM.out.mono ?_
          rintro e w1 ⟨ov, rfl, out2, hp2, hb2, hM2⟩
          have HP2 := hideIt (hp2.trans hp.out)
          have HB2 := hideIt hb2
          have HM2 := hideIt (hM2.sub (List.Sublist.cons_cons _ (List.sublist_cons_self _ _)))
          clear CM hp2 hb2 hM2
          go_wp2
          go_roundw
          case rel => exact ⟨2 * W, out2, by go_num, by omega, by omega, HP2.out, HB2.out, HM2.out⟩
          case measure => simp [intOf]; omega
        · have hWm : ¬ (W : Int) < (m : Int) := by omega
          have HS := hideIt (blk_all hbk.out (by rw [hol.out]; omega))
          have hM3 : Hid (M w0 B wr (.row 119 4 (.slice oa2 m oc2) out.length (dnc out) :: (x.as ++ fr))) := by unfold Hid; rw [hol.out]; exact hM.out
          clear hM
          go_wp2
          go_ret
          exact ⟨_, rfl, out, hp.out, HS.out, hM3.out⟩
end Go.Proofs.YtjpgldeeopmbgaaDoor.Sap

/- WHAT IS PROVED HERE: saplingkeep's table.do as one step, and at: the map at a time, made again from nothing by what took effect ahead of it. Conditions: all operations have ended, and the Point of each is one of its accesses. -/
namespace Go.Proofs.YtjpgldeeopmbgaaDoor.Sap
open Go.RowKit

theorem tdo_len (kd key v : Int) (K V : List Int) (h : K.length = V.length) : (tdo kd key v K V).1.length = (tdo kd key v K V).2.length ∧ (tdo kd key v K V).1.length ≤ K.length + 1 := by
  unfold tdo
  split
  · split
    · exact ⟨by simp [h], by simp⟩
    · split
      · exact ⟨by simp [h], by simp; omega⟩
      · exact ⟨h, by simp⟩
  · split
    · exact ⟨by simp [h], by simp⟩
    · exact ⟨h, by simp⟩

theorem do_any (gt n : Nat) (kv vv : Value) (K V : List Int) (kd key v : Int) (fr : List As) (w0 w : World) (B : Nat) (hn : n < 1000000000) (hK : K.length = n) (hV : V.length = n)
    (h : M w0 B w (.blk gt #[kv, vv] 84 :: .row 3 1 kv n (ints K) :: .row 3 1 vv n (ints V) :: fr)) :
    Calls Tryd.prog 69 #[.pointer (some ⟨gt, 0, none⟩), .agg #[.int .i64 kd, .int .i64 key, .int .i64 v]] w fun e w' => (∃ u, e = .returned u) ∧ ∃ kv' vv',
      M w0 B w' (.blk gt #[kv', vv'] 84 :: .row 3 1 kv' (tdo kd key v K V).1.length (ints (tdo kd key v K V).1) :: .row 3 1 vv' (tdo kd key v K V).1.length (ints (tdo kd key v K V).2) :: fr) := by
  by_cases hm : key ∈ K
  · have hx := List.idxOf_lt_length_of_mem hm
    have h1 : K[K.idxOf key]? = some key := by rw [List.getElem?_eq_getElem hx, List.getElem_idxOf hx]
    have h2 : ∀ j, j < K.idxOf key → K[j]?.getD 0 ≠ key := by
      intro j hj he
      have hjl : j < K.length := by omega
      rw [List.getElem?_eq_getElem hjl] at he
      have : K.idxOf key ≤ j := by
        rw [← he]
        show K.idxOf K[j] ≤ j
        rcases Nat.lt_or_ge j (K.idxOf K[j]) with h | h
        · have := List.not_of_lt_findIdx (p := (· == K[j])) (xs := K) (i := j) h
          simp at this
        · exact h
      omega
    by_cases k2 : kd = 2
    · subst k2
      have e : tdo 2 key v K V = (K, V.set (K.idxOf key) v) := by unfold tdo; rw [if_pos hm, if_pos rfl]
      rw [e]
      refine (do_set gt n _ kv vv K V key v fr w0 w B (by omega) hK hV h1 h2 h).mono ?_
      rintro e w' ⟨he, hM⟩
      exact ⟨he, kv, vv, by rw [hK]; exact hM⟩
    · by_cases k3 : kd = 3
      · subst k3
        obtain ⟨m, rfl⟩ : ∃ m, n = m + 1 := ⟨n - 1, by omega⟩
        have e : tdo 3 key v K V = ((K.set (K.idxOf key) (K[m]?.getD 0)).take m, (V.set (K.idxOf key) (V[m]?.getD 0)).take m) := by unfold tdo; rw [if_pos hm, if_neg (by omega), if_pos rfl, hK]; rfl
        rw [e]
        refine (do_drop gt m _ kv vv K V key v fr w0 w B (by omega) hK hV h1 h2 h).mono ?_
        rintro e w' ⟨he, kv', vv', hM⟩
        refine ⟨he, kv', vv', ?_⟩
        rw [show ((K.set (K.idxOf key) (K[m]?.getD 0)).take m).length = m by simp [hK]]
        exact hM
      · have e : tdo kd key v K V = (K, V) := by unfold tdo; rw [if_pos hm, if_neg k2, if_neg k3]
        rw [e]
        refine (do_none gt n kv vv K V kd key v fr w0 w B (by omega) hK k2 (Or.inl k3) h).mono ?_
        rintro e w' ⟨he, hM⟩
        exact ⟨he, kv, vv, by rw [hK]; exact hM⟩
  · by_cases k2 : kd = 2
    · subst k2
      have e : tdo 2 key v K V = (K ++ [key], V ++ [v]) := by unfold tdo; rw [if_neg hm, if_pos rfl]
      rw [e]
      refine (do_add gt n kv vv K V key v fr w0 w B (by omega) hK hV hm h).mono ?_
      rintro e w' ⟨he, kv', vv', hM⟩
      exact ⟨he, kv', vv', by rw [List.length_append, hK]; exact hM⟩
    · have e : tdo kd key v K V = (K, V) := by unfold tdo; rw [if_neg hm, if_neg k2]
      rw [e]
      refine (do_none gt n kv vv K V kd key v fr w0 w B (by omega) hK k2 (Or.inr hm) h).mono ?_
      rintro e w' ⟨he, hM⟩
      exact ⟨he, kv, vv, by rw [hK]; exact hM⟩

/-- The map that these make, one after the other. -/
def tabO (l : List Dn) : List Int × List Int := l.foldl (fun KV d => tdo d.k d.key d.v KV.1 KV.2) ([], [])
theorem tabO_succ (l : List Dn) (i : Nat) (d : Dn) (h : l[i]? = some d) : tabO (l.take (i + 1)) = tdo d.k d.key d.v (tabO (l.take i)).1 (tabO (l.take i)).2 := by
  unfold tabO
  rw [List.take_add_one, h, Option.toList_some, List.foldl_append]
  rfl
theorem tabO_len (l : List Dn) : ∀ i, (tabO (l.take i)).1.length = (tabO (l.take i)).2.length ∧ (tabO (l.take i)).1.length ≤ i := by
  intro i
  induction i with
  | zero => simp [tabO]
  | succ i ih =>
    rcases Nat.lt_or_ge i l.length with h | h
    · rw [tabO_succ l i _ (List.getElem?_eq_getElem h)]
      have := tdo_len l[i].k l[i].key l[i].v _ _ ih.1
      exact ⟨this.1, by omega⟩
    · rw [List.take_of_length_le (by omega)]
      rw [List.take_of_length_le h] at ih
      exact ⟨ih.1, by omega⟩
/-- What took effect ahead of a time. -/
def ahead (l : List Dn) (time : Int) : List Dn := l.takeWhile fun d => decide (d.t < time)
theorem ahead_eq (l : List Dn) (time : Int) (i : Nat) (h1 : ∀ j d, j < i → l[j]? = some d → d.t < time) (h2 : ∀ d, l[i]? = some d → ¬ d.t < time) : ahead l time = l.take i := by
  unfold ahead
  induction l generalizing i with
  | nil => simp
  | cons a l ih =>
    cases i with
    | zero =>
      have := h2 a rfl
      simp [this]
    | succ i =>
      have h3 := h1 0 a (by omega) rfl
      rw [List.takeWhile_cons, if_pos (by simpa using h3), List.take_succ_cons, ih i (fun j d hj hd => h1 (j + 1) d (by omega) (by simpa using hd)) (fun d hd => h2 d (by simpa using hd))]
end Go.Proofs.YtjpgldeeopmbgaaDoor.Sap

/- WHAT IS PROVED HERE: saplingkeep.bounds tells where each node of a row begins. Conditions: each node but the first has a key; at most 200 nodes. -/
namespace Go.Proofs.YtjpgldeeopmbgaaDoor.Sap
open Go.RowKit

/-- The cells of one node among many. -/
theorem ncells_at (ns : List Nv) (i c : Nat) (hc : c < 5) : (ncells ns)[i * 5 + c]? = (ns[i]?).bind fun x => x.cells[c]? := by
  induction ns generalizing i with
  | nil => simp [ncells]
  | cons x r ih =>
    have e : ncells (x :: r) = x.cells ++ ncells r := by simp [ncells]
    have hx : x.cells.length = 5 := rfl
    rw [e]
    cases i with
    | zero => rw [List.getElem?_append_left (by omega)]; simp
    | succ i =>
      rw [List.getElem?_append_right (by omega), hx, show (i + 1) * 5 + c - 5 = i * 5 + c by omega, ih i]
      simp
theorem ncells_len (ns : List Nv) : (ncells ns).length = ns.length * 5 := by
  induction ns with
  | nil => rfl
  | cons x r ih =>
    have e : ncells (x :: r) = x.cells ++ ncells r := by simp [ncells]
    rw [e, List.length_append, ih, show x.cells.length = 5 from rfl, List.length_cons]; omega
/-- A row of nodes that is there, with all their lists. -/
structure NS (w : World) (B : Nat) (v : Value) (ns : List Nv) : Prop where
  row : As.holds w B (.row 24 5 v ns.length (ncells ns))
  rows : ∀ r ∈ nrows ns, r.holds w B
theorem M.ns {w0 w : World} {B : Nat} {l : List As} {v : Value} {ns : List Nv} (h : M w0 B w l) (h1 : .row 24 5 v ns.length (ncells ns) ∈ l) (h2 : ∀ r ∈ nrows ns, r ∈ l) : NS w B v ns := ⟨h.holds _ h1, fun r hr => h.holds r (h2 r hr)⟩
theorem NS.below {w w' : World} {B : Nat} {v : Value} {ns : List Nv} (h : NS w B v ns) (hb : Below w.heap.size w w') : NS w' B v ns :=
  ⟨h.row.kept fun k hk => hb.block k (h.row.lt hk).2, fun r hr => (h.rows r hr).kept fun k hk => hb.block k ((h.rows r hr).lt hk).2⟩
theorem NS.form {w : World} {B : Nat} {v : Value} {ns : List Nv} (h : NS w B v ns) (hn : 0 < ns.length) : ∃ g cap, v = .slice (some ⟨g, 0, none⟩) ns.length cap := As.form h.row hn
theorem NS.at {w : World} {B g cap : Nat} {ns : List Nv} (h : NS w B (.slice (some ⟨g, 0, none⟩) ns.length cap) ns) (i : Nat) (x : Nv) (hx : ns[i]? = some x) :
    (w.cell? ⟨g, i * 5, none⟩ = some (.int .i64 x.n.lv) ∧ w.cell? ⟨g, i * 5 + 1, none⟩ = some (.int .i64 x.n.lk) ∧ w.cell? ⟨g, i * 5 + 2, none⟩ = some (.int .i64 x.n.hi) ∧ w.cell? ⟨g, i * 5 + 3, none⟩ = some x.kv ∧ w.cell? ⟨g, i * 5 + 4, none⟩ = some x.vv) ∧ (∀ j, w.frozen? ⟨g, j, none⟩ = false) ∧ Rd w x.kv x.n.ks ∧ Rd w x.vv x.n.vs := by
  have hil : i < ns.length := (List.getElem?_eq_some_iff.1 hx).1
  have key : ∀ c, c < 5 → w.cell? ⟨g, i * 5 + c, none⟩ = x.cells[c]? := by
    intro c hc
    rw [World.ownsRow.cellAt h.row _ (by omega), ncells_at _ _ _ hc, hx]; rfl
  have hmem : x ∈ ns := List.mem_of_getElem? hx
  have hr : ∀ r ∈ x.rows, r.holds w B := fun r hr => h.rows r (List.mem_flatMap.2 ⟨x, hmem, hr⟩)
  refine ⟨⟨key 0 (by omega), key 1 (by omega), key 2 (by omega), key 3 (by omega), key 4 (by omega)⟩, fun j => World.ownsRow.frozenAt h.row j, ?_, ?_⟩
  · have h1 : As.holds w B (.row 3 1 x.kv x.n.ks.length (ints x.n.ks)) := hr _ (by simp [Nv.rows])
    exact owns_rd h1
  · have h1 : As.holds w B (.row 3 1 x.vv x.n.vs.length (ints x.n.vs)) := hr _ (by simp [Nv.rows])
    exact owns_rd h1

/-- Where each node begins: the first at 0, each other at its first key. -/
def bnd (ns : List Nv) (i : Nat) : Int := if i = 0 then 0 else ((ns[i]?).map fun x => x.n.ks[0]?.getD 0).getD 0
def bnds (ns : List Nv) : List Int := (List.range ns.length).map (bnd ns)
theorem bnds_len (ns : List Nv) : (bnds ns).length = ns.length := by simp [bnds]
theorem bnds_at (ns : List Nv) (i : Nat) (h : i < ns.length) : (bnds ns)[i]?.getD 0 = bnd ns i := by simp [bnds, h]
theorem bnds_snoc (ns : List Nv) (k : Nat) (h : k < ns.length) : (bnds ns).take (k + 1) = (bnds ns).take k ++ [bnd ns k] := by
  rw [List.take_add_one]; simp [bnds, h]
theorem NS.form' {w : World} {B n cap : Nat} {ao : Option Addr} {ns : List Nv} (h : NS w B (.slice ao n cap) ns) (hn : 0 < n) : ∃ g cap', (Value.slice ao n cap) = .slice (some ⟨g, 0, none⟩) n cap' := by
  rcases h.row.2 with ⟨h1, h0⟩ | ⟨g, c, cur, e, -⟩
  · cases h1; omega
  · cases e; exact ⟨g, cap, rfl⟩
theorem NS.at' {w : World} {B g n cap : Nat} {ns : List Nv} (h : NS w B (.slice (some ⟨g, 0, none⟩) n cap) ns) (i : Nat) (x : Nv) (hx : ns[i]? = some x) :
    (w.cell? ⟨g, i * 5, none⟩ = some (.int .i64 x.n.lv) ∧ w.cell? ⟨g, i * 5 + 1, none⟩ = some (.int .i64 x.n.lk) ∧ w.cell? ⟨g, i * 5 + 2, none⟩ = some (.int .i64 x.n.hi) ∧ w.cell? ⟨g, i * 5 + 3, none⟩ = some x.kv ∧ w.cell? ⟨g, i * 5 + 4, none⟩ = some x.vv) ∧ (∀ j, w.frozen? ⟨g, j, none⟩ = false) ∧ Rd w x.kv x.n.ks ∧ Rd w x.vv x.n.vs := by
  have hl : n = ns.length := by
    rcases h.row.2 with ⟨h1, h0⟩ | ⟨g, c, cur, e, -⟩
    · cases h1
    · cases e; rfl
  subst hl
  exact h.at i x hx

set_option maxRecDepth 100000 in
set_option maxHeartbeats 3200000 in
theorem bounds_any (v : Value) (ns : List Nv) (B : Nat) (w : World) (h : NS w B v ns) (hn : ns.length ≤ 200) (hne : ∀ i x, 0 < i → ns[i]? = some x → x.n.ks ≠ []) :
    Calls Tryd.prog 88 #[v] w fun e w' => ∃ bv, e = .returned bv ∧ M w w.heap.size w' [.row 3 1 bv ns.length (ints (bnds ns))] := by
  obtain ⟨i0, hi0, hz0, hz1, hz2⟩ := info_parts infoInt
  have HNS := hideIt h
  have HNE := hideIt hne
  obtain ⟨ao, cap, rfl⟩ := As.form0 h.row
  obtain ⟨n, hnn⟩ : ∃ n, ns.length = n := ⟨_, rfl⟩
  have HN := hideIt hnn
  rw [hnn] at hn HNS ⊢
  clear h hne hnn
  go_enter Tryd.func88, Tryd.ntmps88
  go_wp2
  go_loopw [3, 4] (fun o i wr => ∃ k : Nat, k ≤ n ∧ i = .int .i64 k ∧ Hid (M w w.heap.size wr [.row 3 1 o k (ints ((bnds ns).take k))])) (fun _ i _ => n - (intOf i).toNat)
  case atStart => exact ⟨0, Nat.zero_le _, rfl, M.snocNil (M.start w)⟩
  case round =>
    obtain ⟨k, hk, rfl, hM⟩ := hrel
    obtain ⟨oa, oc, rfl⟩ := As.form0 (hM.out.get (i := 0) rfl)
    by_cases hlt : k < n
    · have hkk : (k : Int) < (n : Int) := by omega
      have hk0 : (0 : Int) ≤ (k : Int) := by omega
      have HSN := hideIt (bnds_snoc ns k (by rw [HN.out]; exact hlt))
      go_upto_if 13 with fail
      go_cut [5] from 6 to 24 (fun t wx => t = .int .i64 (bnd ns k) ∧ wx = wr)
      case first =>
        by_cases hk1 : 0 < k
        · have hk2 : (0 : Int) < (k : Int) := by omega
          obtain ⟨g, cap', hv⟩ := HNS.out.form' (by omega)
          cases hv
          obtain ⟨x, hx⟩ : ∃ x, ns[k]? = some x := ⟨_, List.getElem?_eq_getElem (by rw [HN.out]; exact hlt)⟩
          have hb := hM.out.bl
          have hat := (HNS.out.below hb).at' k x hx
          obtain ⟨⟨c0, c1, c2, c3, c4⟩, cf, rk, rv⟩ := hat
          have hks := HNE.out k x hk1 hx
          obtain ⟨ka, kc, hkv⟩ := rk.len
          have hpos : 0 < x.n.ks.length := List.length_pos_iff.2 hks
          rw [hkv] at rk c3
          obtain ⟨kb, ko, rfl, -, kx⟩ := rk.elem 0 hpos
          have y1 := kx wr (Below.refl _ _)
          rw [Nat.add_zero] at y1
          have hp2 : (0 : Int) < (x.n.ks.length : Int) := by omega
          have HB : Hid (bnd ns k = x.n.ks[0]?.getD 0) := by unfold Hid bnd; rw [if_neg (by omega), hx]; rfl
          obtain ⟨fk, hfk⟩ : ∃ y, x.n.ks[0]?.getD 0 = y := ⟨_, rfl⟩
          rw [hfk] at y1 HB
          clear hfk hx hkv rk rv kx c0 c1 c2 c4 hks
          go_wp2
          go_meet
          case rel => exact ⟨by rw [HB.out], rfl⟩
        · have hk0 : k = 0 := by omega
          subst hk0
          go_wp2
          go_meet
          case rel => exact ⟨rfl, rfl⟩
      case rest =>
        obtain ⟨rfl, rfl⟩ := hcut
        go_wp2_with (at_builtin; refine wpList_append_lies _ rfl _ _ 22 rfl w.heap.size 3 i0 (.int .i64 0) 1 8 Tryd.underlying22 hi0 hz0 hz1 hz2 rfl (by decide) _ k (ints ((bnds ns).take k)) rfl (World.ownsRow.alloc (hM.out.get (i := 0) rfl) _) ⟨_, 0, none⟩ 1 1 [.int .i64 (bnd ns k)] rfl rfl (news_one _ _ _) (by simp [Value.oneCell']) (by omega) (by unfold maxLen; omega) (by omega) (by have := hM.out.sz; simp at this ⊢; omega) _ rfl ?_; intro g cap w1 hown hgrow hat hlt1; rw [← ints_snoc, ← HSN.out] at hown; have H1 := hideIt ((hM.out.allocd _).lies (i := 0) rfl hown hgrow hat); clear hown hgrow hat)
        go_roundw
        case rel => exact ⟨k + 1, by omega, by go_num, H1.out⟩
        case measure => simp [intOf]; omega
    · obtain rfl : k = n := by omega
      go_wp2
      go_ret
      refine ⟨_, rfl, ?_⟩
      have h1 := hM.out
      rw [List.take_of_length_le (by rw [bnds_len, HN.out]; exact Nat.le_refl _)] at h1
      exact h1
end Go.Proofs.YtjpgldeeopmbgaaDoor.Sap
