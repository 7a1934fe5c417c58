/- WHAT IS PROVED HERE: saplingkeep's took: the Puts and Drops that took effect, in the order of their Points. Conditions: all operations have ended, and the Point of each is one of its accesses. -/
import Derived.Test.YtajobgmnmbnhiaaDoorPt29
namespace Go.Proofs.YtajobgmnmbnhiaaDoor.Sap
open Go.RowKit
def tkL (ds : List Dd) : List Dn := ds.filterMap tkD
theorem tkL_succ (ds : List Dd) (i : Nat) (d : Dd) (h : ds[i]? = some d) : tkL (ds.take (i + 1)) = tkL (ds.take i) ++ (tkD d).toList := by
  unfold tkL
  rw [List.take_add_one, h, Option.toList_some, List.filterMap_append]
  cases hd : tkD d <;> simp [hd]
set_option maxRecDepth 100000 in
set_option maxHeartbeats 6400000 in
theorem took_any (x : Wd) (fr : List As) (w0 w : World) (B : Nat) (hov : ∀ d ∈ x.ds, d.over) (hnd : x.ds.length ≤ 100000000) (h : M w0 B w (x.as ++ fr)) :
    Calls Tryd.prog 58 #[.pointer (some ⟨x.gw, 0, none⟩)] w fun e w' => ∃ ov, e = .returned ov ∧ ∃ out, out.Perm (tkL x.ds) ∧ Srt out ∧ M w0 B w' (.row 111 4 ov out.length (dnc out) :: (x.as ++ fr)) := by
  obtain ⟨j0, hj0, hy0, hy1, hy2⟩ := info_parts infoDone
  obtain ⟨da, dc, hdv⟩ := As.form0 (h.get (i := 2) rfl)
  obtain ⟨n, hn⟩ : ∃ n, x.ds.length = n := ⟨_, rfl⟩
  have HN := hideIt hn
  have HDV := hideIt hdv
  have HOV := hideIt hov
  have A0 := hideIt (M.nil2 (e := 111) (z := 4) (l1 := []) h)
  rw [hn] at hdv hnd
  clear h hov
  go_enter Tryd.func58, Tryd.ntmps58
  go_wp2
  go_loopw [3, 4] (fun ov vi wr => ∃ (i m : Nat), vi = .int .i64 i ∧ i ≤ n ∧ Hid ((tkL (x.ds.take i)).length = m) ∧ m ≤ i ∧ Hid (M w0 B wr (.row 111 4 ov m (dnc (tkL (x.ds.take i))) :: (x.as ++ fr)))) (fun _ vi _ => n - (intOf vi).toNat)
  case atStart => exact ⟨0, 0, rfl, by omega, rfl, by omega, A0.out⟩
  case round =>
    clear A0
    obtain ⟨i, m, rfl, hi, hml, hm, hM⟩ := hrel
    obtain ⟨oa, oc, rfl⟩ := As.form0 (hM.out.get (i := 0) rfl)
    have g3 := hM.out.cell (i := 1) rfl 3 (.slice da n dc) (by rw [← hdv]; rfl)
    have hi0 : (0 : Int) ≤ (i : Int) := by omega
    by_cases hlt : i < n
    · have hin : (i : Int) < (n : Int) := by omega
      obtain ⟨d, hd⟩ : ∃ d, x.ds[i]? = some d := ⟨_, List.getElem?_eq_getElem (by rw [HN.out]; exact hlt)⟩
      obtain ⟨gg, cc, hda⟩ := As.form (hM.out.get (i := 3) rfl) (show 0 < x.ds.length by rw [HN.out]; omega)
      have hda2 : da = some ⟨gg, 0, none⟩ := by rw [hdv] at hda; injection hda
      subst hda2
      have R := hM.out.get (i := 3) rfl
      rw [hdv, HN.out] at R
      have dp := World.ownsRow.cellAt R.own i (by omega)
      rw [List.getElem?_map, hd] at dp
      have dp' : wr.cell? ⟨gg, i, none⟩ = some (.pointer (some ⟨d.gd, 0, none⟩)) := dp
      have D := M.deed (pre := [_]) hM.out hd
      obtain ⟨hen, p, hpt, hp1, hp2⟩ := HOV.out d (List.mem_of_getElem? hd)
      have e0 := D.cell (i := 0) rfl 0 (.int .i64 d.k) rfl
      have e1 := D.cell (i := 0) rfl 1 (.int .i64 d.key) rfl
      have e2 := D.cell (i := 0) rfl 2 (.int .i64 d.v) rfl
      have e4 := D.cell (i := 0) rfl 4 d.tm rfl
      have e7 := D.cell (i := 0) rfl 7 (.bool d.en) rfl
      have e8 := D.cell (i := 0) rfl 8 (.int .i64 d.er) rfl
      have e11 := D.cell (i := 0) rfl 11 (.int .i64 d.pt) rfl
      have RT := owns_rd (D.get (i := 2) rfl).own
      have CP := hideIt (point_yes d.gd d.tm d.ts p wr e4 RT hp1)
      have TS := hideIt (tkL_succ x.ds i d hd)
      obtain ⟨tt, htt⟩ : ∃ y, d.ts[p]?.getD 0 = y := ⟨_, rfl⟩
      have HTK : Hid (tkD d = if (d.k = 2 ∨ d.k = 3) ∧ d.er = 0 then some ⟨tt, d.k, d.key, d.v⟩ else none) := by
        unfold Hid tkD; rw [hpt, Int.toNat_natCast, htt]
      rw [htt] at CP
      rw [hen] at e7
      rw [hpt] at e11
      obtain ⟨gd, hgd⟩ : ∃ y, d.gd = y := ⟨_, rfl⟩
      obtain ⟨dk, hdk⟩ : ∃ y, d.k = y := ⟨_, rfl⟩
      obtain ⟨dkey, hdkey⟩ : ∃ y, d.key = y := ⟨_, rfl⟩
      obtain ⟨dv, hdvv⟩ : ∃ y, d.v = y := ⟨_, rfl⟩
      obtain ⟨er, her⟩ : ∃ y, d.er = y := ⟨_, rfl⟩
      rw [hgd] at dp' CP e0 e1 e2 e7 e8 e11
      rw [hdk] at e0 HTK
      rw [hdkey] at e1 HTK
      rw [hdvv] at e2 HTK
      rw [her] at e8 HTK
      have hlg : gd < wr.heap.size := lt_of_cell e0
      clear dp R D RT hen hpt hp1 hp2 e4 hda hgd hdk hdkey hdvv her htt hd
      go_wp2_with fail
      refine CP.out.mono ?_
      rintro e w1 ⟨rfl, hb⟩
      have hN := hideIt (hM.out.below hb)
      have d0 := cell_below hb _ _ e0
      have d1 := cell_below hb _ _ e1
      have d2 := cell_below hb _ _ e2
      have d7 := cell_below hb _ _ e7
      have d8 := cell_below hb _ _ e8
      have hlg1 : gd < w1.heap.size := lt_of_cell d0
      clear CP hM e0 e1 e2 e7 e8 e11 dp' g3 hb hlg
      rcases (show dk = 2 ∨ dk = 3 ∨ (dk ≠ 2 ∧ dk ≠ 3) by omega) with hk | hk | hk
      · subst hk
        by_cases her : er = 0
        · have heb : (er == 0) = true := by simp [her]
          have HT1 : Hid (dnc (tkL (x.ds.take (i + 1))) = dnc (tkL (x.ds.take i)) ++ [.int .i64 tt, .int .i64 2, .int .i64 dkey, .int .i64 dv]) := by
            unfold Hid; rw [TS.out, HTK.out, if_pos ⟨by omega, her⟩, Option.toList_some, dnc_snoc]
          have HT2 : Hid ((tkL (x.ds.take (i + 1))).length = m + 1) := by
            unfold Hid; rw [TS.out, HTK.out, if_pos ⟨by omega, her⟩, Option.toList_some, List.length_append, hml.out]; rfl
          clear her
          go_wp2_with (at_builtin; refine wpList_append_lies _ rfl _ _ 56 rfl B 111 j0 (.agg #[.int .i64 0, .int .i64 0, .int .i64 0, .int .i64 0]) 4 32 Tryd.underlying56 hj0 hy0 hy1 hy2 rfl (by decide) _ m (dnc (tkL (x.ds.take i))) rfl (World.ownsRow.alloc (hN.out.get (i := 0) rfl).own _) ⟨_, 0, none⟩ 1 1 [.int .i64 tt, .int .i64 2, .int .i64 dkey, .int .i64 dv] rfl rfl (World.news_of_block (heap_alloc_new _ _)) (by simp [Value.oneCell']) (by omega) (by unfold maxLen; omega) (by omega) (by have := hN.out.sz; simp at this ⊢; omega) _ rfl ?_; intro g1 cap1 w5 hown hgrow hat hlt1; rw [← HT1.out] at hown; have H1 := hideIt ((hN.out.allocd _).lies (i := 0) rfl hown hgrow hat); clear hown hgrow hat)
          go_roundw
          case rel => exact ⟨i + 1, m + 1, by go_num, by omega, HT2.out, by omega, H1.out⟩
          case measure => simp [intOf]; omega
        · have heb : (er == 0) = false := by simp [her]
          have HT1 : Hid (tkL (x.ds.take (i + 1)) = tkL (x.ds.take i)) := by
            unfold Hid; rw [TS.out, HTK.out, if_neg (fun h => her h.2), Option.toList_none, List.append_nil]
          clear her
          go_wp2
          go_roundw
          case rel => exact ⟨i + 1, m, by go_num, by omega, by unfold Hid; rw [HT1.out]; exact hml.out, by omega, by unfold Hid; rw [HT1.out]; exact hN.out⟩
          case measure => simp [intOf]; omega
      · subst hk
        by_cases her : er = 0
        · have heb : (er == 0) = true := by simp [her]
          have HT1 : Hid (dnc (tkL (x.ds.take (i + 1))) = dnc (tkL (x.ds.take i)) ++ [.int .i64 tt, .int .i64 3, .int .i64 dkey, .int .i64 dv]) := by
            unfold Hid; rw [TS.out, HTK.out, if_pos ⟨by omega, her⟩, Option.toList_some, dnc_snoc]
          have HT2 : Hid ((tkL (x.ds.take (i + 1))).length = m + 1) := by
            unfold Hid; rw [TS.out, HTK.out, if_pos ⟨by omega, her⟩, Option.toList_some, List.length_append, hml.out]; rfl
          clear her
          go_wp2_with (at_builtin; refine wpList_append_lies _ rfl _ _ 56 rfl B 111 j0 (.agg #[.int .i64 0, .int .i64 0, .int .i64 0, .int .i64 0]) 4 32 Tryd.underlying56 hj0 hy0 hy1 hy2 rfl (by decide) _ m (dnc (tkL (x.ds.take i))) rfl (World.ownsRow.alloc (hN.out.get (i := 0) rfl).own _) ⟨_, 0, none⟩ 1 1 [.int .i64 tt, .int .i64 3, .int .i64 dkey, .int .i64 dv] rfl rfl (World.news_of_block (heap_alloc_new _ _)) (by simp [Value.oneCell']) (by omega) (by unfold maxLen; omega) (by omega) (by have := hN.out.sz; simp at this ⊢; omega) _ rfl ?_; intro g1 cap1 w5 hown hgrow hat hlt1; rw [← HT1.out] at hown; have H1 := hideIt ((hN.out.allocd _).lies (i := 0) rfl hown hgrow hat); clear hown hgrow hat)
          go_roundw
          case rel => exact ⟨i + 1, m + 1, by go_num, by omega, HT2.out, by omega, H1.out⟩
          case measure => simp [intOf]; omega
        · have heb : (er == 0) = false := by simp [her]
          have HT1 : Hid (tkL (x.ds.take (i + 1)) = tkL (x.ds.take i)) := by
            unfold Hid; rw [TS.out, HTK.out, if_neg (fun h => her h.2), Option.toList_none, List.append_nil]
          clear her
          go_wp2
          go_roundw
          case rel => exact ⟨i + 1, m, by go_num, by omega, by unfold Hid; rw [HT1.out]; exact hml.out, by omega, by unfold Hid; rw [HT1.out]; exact hN.out⟩
          case measure => simp [intOf]; omega
      · have hk2 : (dk == 2) = false := by simp [hk.1]
        have hk3 : (dk == 3) = false := by simp [hk.2]
        have HT1 : Hid (tkL (x.ds.take (i + 1)) = tkL (x.ds.take i)) := by
          unfold Hid; rw [TS.out, HTK.out, if_neg (fun h => by have := h.1; omega), Option.toList_none, List.append_nil]
        clear hk
        go_wp2
        go_roundw
        case rel => exact ⟨i + 1, m, by go_num, by omega, by unfold Hid; rw [HT1.out]; exact hml.out, by omega, by unfold Hid; rw [HT1.out]; exact hN.out⟩
        case measure => simp [intOf]; omega
    · obtain rfl : i = n := by omega
      have hT : Hid (tkL (x.ds.take i) = tkL x.ds) := by unfold Hid; rw [List.take_of_length_le (by rw [HN.out]; omega)]
      rw [hT.out] at hM hml
      go_wp2
      clear g3
      go_loopw [3, 9] (fun lv vw wr => ∃ (W : Nat) (out : List Dn), vw = .int .i64 W ∧ 1 ≤ W ∧ W ≤ 2 * i + 1 ∧ Hid (out.Perm (tkL x.ds)) ∧ Hid (Blk W out) ∧ Hid (M w0 B wr (.row 111 4 lv m (dnc out) :: (x.as ++ fr)))) (fun _ vw _ => 2 * i + 2 - (intOf vw).toNat)
      case atStart => exact ⟨1, tkL x.ds, rfl, by omega, by omega, List.Perm.refl _, blk_one _, hM.out⟩
      case round =>
        clear hM
        obtain ⟨W, out, rfl, hW1, hW2, hp, hbk, hM⟩ := hrel
        obtain ⟨oa2, oc2, rfl⟩ := As.form0 (hM.out.get (i := 0) rfl)
        have hol : Hid (out.length = m) := by unfold Hid; rw [hp.out.length_eq]; exact hml.out
        by_cases hlt2 : W < m
        · have hWm : (W : Int) < (m : Int) := by omega
          have CM := hideIt (merged_any (.slice oa2 m oc2) out W m (x.as ++ fr) w0 _ B hol.out (by omega) hW1 (by omega) hbk.out hM.out)
          clear hM
          go_wp2_with fail
          refine CM.out.mono ?_
          rintro e w1 ⟨ov, rfl, out2, hp2, hb2, hM2⟩
          have HP2 := hideIt (hp2.trans hp.out)
          have HB2 := hideIt hb2
          have HM2 := hideIt (hM2.sub (List.Sublist.cons_cons _ (List.sublist_cons_self _ _)))
          clear CM hp2 hb2 hM2
          go_wp2
          go_roundw
          case rel => exact ⟨2 * W, out2, by go_num, by omega, by omega, HP2.out, HB2.out, HM2.out⟩
          case measure => simp [intOf]; omega
        · have hWm : ¬ (W : Int) < (m : Int) := by omega
          have HS := hideIt (blk_all hbk.out (by rw [hol.out]; omega))
          have hM3 : Hid (M w0 B wr (.row 111 4 (.slice oa2 m oc2) out.length (dnc out) :: (x.as ++ fr))) := by unfold Hid; rw [hol.out]; exact hM.out
          clear hM
          go_wp2
          go_ret
          exact ⟨_, rfl, out, hp.out, HS.out, hM3.out⟩
theorem tdo_len (kd key v : Int) (K V : List Int) (h : K.length = V.length) : (tdo kd key v K V).1.length = (tdo kd key v K V).2.length ∧ (tdo kd key v K V).1.length ≤ K.length + 1 := by
  unfold tdo
  split
  · split
    · exact ⟨by simp [h], by simp⟩
    · split
      · exact ⟨by simp [h], by simp; omega⟩
      · exact ⟨h, by simp⟩
  · split
    · exact ⟨by simp [h], by simp⟩
    · exact ⟨h, by simp⟩
theorem do_any (gt n : Nat) (kv vv : Value) (K V : List Int) (kd key v : Int) (fr : List As) (w0 w : World) (B : Nat) (hn : n < 1000000000) (hK : K.length = n) (hV : V.length = n)
    (h : M w0 B w (.blk gt #[kv, vv] 67 :: .row 3 1 kv n (ints K) :: .row 3 1 vv n (ints V) :: fr)) :
    Calls Tryd.prog 59 #[.pointer (some ⟨gt, 0, none⟩), .agg #[.int .i64 kd, .int .i64 key, .int .i64 v]] w fun e w' => (∃ u, e = .returned u) ∧ ∃ kv' vv',
      M w0 B w' (.blk gt #[kv', vv'] 67 :: .row 3 1 kv' (tdo kd key v K V).1.length (ints (tdo kd key v K V).1) :: .row 3 1 vv' (tdo kd key v K V).1.length (ints (tdo kd key v K V).2) :: fr) := by
  by_cases hm : key ∈ K
  · have hx := List.idxOf_lt_length_of_mem hm
    have h1 : K[K.idxOf key]? = some key := by rw [List.getElem?_eq_getElem hx, List.getElem_idxOf hx]
    have h2 : ∀ j, j < K.idxOf key → K[j]?.getD 0 ≠ key := by
      intro j hj he
      have hjl : j < K.length := by omega
      rw [List.getElem?_eq_getElem hjl] at he
      have : K.idxOf key ≤ j := by
        rw [← he]
        show K.idxOf K[j] ≤ j
        rcases Nat.lt_or_ge j (K.idxOf K[j]) with h | h
        · have := List.not_of_lt_findIdx (p := (· == K[j])) (xs := K) (i := j) h
          simp at this
        · exact h
      omega
    by_cases k2 : kd = 2
    · subst k2
      have e : tdo 2 key v K V = (K, V.set (K.idxOf key) v) := by unfold tdo; rw [if_pos hm, if_pos rfl]
      rw [e]
      refine (do_set gt n _ kv vv K V key v fr w0 w B (by omega) hK hV h1 h2 h).mono ?_
      rintro e w' ⟨he, hM⟩
      exact ⟨he, kv, vv, by rw [hK]; exact hM⟩
    · by_cases k3 : kd = 3
      · subst k3
        obtain ⟨m, rfl⟩ : ∃ m, n = m + 1 := ⟨n - 1, by omega⟩
        have e : tdo 3 key v K V = ((K.set (K.idxOf key) (K[m]?.getD 0)).take m, (V.set (K.idxOf key) (V[m]?.getD 0)).take m) := by unfold tdo; rw [if_pos hm, if_neg (by omega), if_pos rfl, hK]; rfl
        rw [e]
        refine (do_drop gt m _ kv vv K V key v fr w0 w B (by omega) hK hV h1 h2 h).mono ?_
        rintro e w' ⟨he, kv', vv', hM⟩
        refine ⟨he, kv', vv', ?_⟩
        rw [show ((K.set (K.idxOf key) (K[m]?.getD 0)).take m).length = m by simp [hK]]
        exact hM
      · have e : tdo kd key v K V = (K, V) := by unfold tdo; rw [if_pos hm, if_neg k2, if_neg k3]
        rw [e]
        refine (do_none gt n kv vv K V kd key v fr w0 w B (by omega) hK k2 (Or.inl k3) h).mono ?_
        rintro e w' ⟨he, hM⟩
        exact ⟨he, kv, vv, by rw [hK]; exact hM⟩
  · by_cases k2 : kd = 2
    · subst k2
      have e : tdo 2 key v K V = (K ++ [key], V ++ [v]) := by unfold tdo; rw [if_neg hm, if_pos rfl]
      rw [e]
      refine (do_add gt n kv vv K V key v fr w0 w B (by omega) hK hV hm h).mono ?_
      rintro e w' ⟨he, kv', vv', hM⟩
      exact ⟨he, kv', vv', by rw [List.length_append, hK]; exact hM⟩
    · have e : tdo kd key v K V = (K, V) := by unfold tdo; rw [if_neg hm, if_neg k2]
      rw [e]
      refine (do_none gt n kv vv K V kd key v fr w0 w B (by omega) hK k2 (Or.inr hm) h).mono ?_
      rintro e w' ⟨he, hM⟩
      exact ⟨he, kv, vv, by rw [hK]; exact hM⟩
def tabO (l : List Dn) : List Int × List Int := l.foldl (fun KV d => tdo d.k d.key d.v KV.1 KV.2) ([], [])
theorem tabO_succ (l : List Dn) (i : Nat) (d : Dn) (h : l[i]? = some d) : tabO (l.take (i + 1)) = tdo d.k d.key d.v (tabO (l.take i)).1 (tabO (l.take i)).2 := by
  unfold tabO
  rw [List.take_add_one, h, Option.toList_some, List.foldl_append]
  rfl
theorem tabO_len (l : List Dn) : ∀ i, (tabO (l.take i)).1.length = (tabO (l.take i)).2.length ∧ (tabO (l.take i)).1.length ≤ i := by
  intro i
  induction i with
  | zero => simp [tabO]
  | succ i ih =>
    rcases Nat.lt_or_ge i l.length with h | h
    · rw [tabO_succ l i _ (List.getElem?_eq_getElem h)]
      have := tdo_len l[i].k l[i].key l[i].v _ _ ih.1
      exact ⟨this.1, by omega⟩
    · rw [List.take_of_length_le (by omega)]
      rw [List.take_of_length_le h] at ih
      exact ⟨ih.1, by omega⟩
theorem ahead_eq (l : List Dn) (time : Int) (i : Nat) (h1 : ∀ j d, j < i → l[j]? = some d → d.t < time) (h2 : ∀ d, l[i]? = some d → ¬ d.t < time) : ahead l time = l.take i := by
  unfold ahead
  induction l generalizing i with
  | nil => simp
  | cons a l ih =>
    cases i with
    | zero =>
      have := h2 a rfl
      simp [this]
    | succ i =>
      have h3 := h1 0 a (by omega) rfl
      rw [List.takeWhile_cons, if_pos (by simpa using h3), List.take_succ_cons, ih i (fun j d hj hd => h1 (j + 1) d (by omega) (by simpa using hd)) (fun d hd => h2 d (by simpa using hd))]
theorem eql_nilD (w : World) (a : Option Addr) (l c : Nat) : (binOp .eql 56 (.slice a l c) (.slice none 0 0)).run Tryd.prog w = .ok (.bool a.isNone) w := by
  simp only [binOp]
  simp [run_equal_slice_nil w 56 111 a l c Tryd.underlying56]
def OrdI (x : Wd) (o : List Dn) : Prop := (x.ov = .slice none 0 0 ∧ o = []) ∨ (o.Perm (tkL x.ds) ∧ Srt o)
theorem dn_cells {w : World} {B g n cap : Nat} {L : List Dn} (hr : w.ownsRow B 111 4 (.slice (some ⟨g, 0, none⟩) n cap) n (dnc L)) {j : Nat} {d : Dn} (hj : L[j]? = some d) (hjn : j < n) :
    w.cell? ⟨g, j * 4, none⟩ = some (.int .i64 d.t) ∧ w.cell? ⟨g, j * 4 + 1, none⟩ = some (.int .i64 d.k) ∧ w.cell? ⟨g, j * 4 + 2, none⟩ = some (.int .i64 d.key) ∧ w.cell? ⟨g, j * 4 + 3, none⟩ = some (.int .i64 d.v) := by
  obtain ⟨h1, h2, h3, h4⟩ := dnc_at hj
  refine ⟨?_, ?_, ?_, ?_⟩
  · rw [World.ownsRow.cellAt hr _ (by omega)]; exact h1
  · rw [World.ownsRow.cellAt hr _ (by omega)]; exact h2
  · rw [World.ownsRow.cellAt hr _ (by omega)]; exact h3
  · rw [World.ownsRow.cellAt hr _ (by omega)]; exact h4
set_option maxRecDepth 100000 in
set_option maxHeartbeats 6400000 in
theorem at_any (x : Wd) (o : List Dn) (time : Int) (fr : List As) (w0 w : World) (B : Nat) (hov : ∀ d ∈ x.ds, d.over) (hnd : x.ds.length ≤ 100000000) (hO : OrdI x o) (h : M w0 B w (x.as ++ (.row 111 4 x.ov o.length (dnc o) :: fr))) :
    Calls Tryd.prog 32 #[.pointer (some ⟨x.gw, 0, none⟩), .int .i64 time] w fun e w' => ∃ gt, e = .returned (.pointer (some ⟨gt, 0, none⟩)) ∧ ∃ ov' o', o'.Perm (tkL x.ds) ∧ Srt o' ∧ ∃ kv vv,
      M w0 B w' (.blk gt #[kv, vv] 67 :: .row 3 1 kv (tabO (ahead o' time)).1.length (ints (tabO (ahead o' time)).1) :: .row 3 1 vv (tabO (ahead o' time)).1.length (ints (tabO (ahead o' time)).2) :: (({ x with ov := ov' } : Wd).as ++ (.row 111 4 ov' o'.length (dnc o') :: fr))) := by
  obtain ⟨n, hn⟩ : ∃ n, x.ds.length = n := ⟨_, rfl⟩
  have HN := hideIt hn
  have hg := h.cell (i := 0) rfl 13 x.ov rfl
  have hrow : As.holds w B (.row 111 4 x.ov o.length (dnc o)) := h.holds _ (by simp)
  obtain ⟨oa, oc, hoa⟩ := As.form0 hrow
  rw [hoa] at hg
  have hq := fun u => eql_nilD u oa o.length oc
  have HM := hideIt h
  have HO := hideIt hO
  have HOV := hideIt hov
  have HOA := hideIt hoa
  rw [hn] at hnd
  clear h hO hov hrow hn hoa
  go_enter Tryd.func32, Tryd.ntmps32
  go_upto_if 11 with fail
  go_cut [] (fun wy => ∃ ov' o', Hid (o'.Perm (tkL x.ds)) ∧ Hid (Srt o') ∧ Hid (M w0 B wy (({ x with ov := ov' } : Wd).as ++ (.row 111 4 ov' o'.length (dnc o') :: fr))))
  case first =>
    cases oa with
    | none =>
      have CT := hideIt (took_any x _ w0 w B HOV.out (by rw [HN.out]; exact hnd) HM.out)
      go_wp2_with fail
      refine CT.out.mono ?_
      rintro e w1 ⟨ov, rfl, out, hp, hs, hM1⟩
      obtain ⟨va, vc, rfl⟩ := As.form0 (hM1.get (i := 0) rfl)
      have HP := hideIt hp
      have HS := hideIt hs
      have g13 := hM1.cell (i := 1) rfl 13 x.ov rfl
      have f13 := hM1.free (i := 1) rfl 13
      obtain ⟨x', hx'⟩ : ∃ y : Wd, y = { x with ov := .slice va out.length vc } := ⟨_, rfl⟩
      have S1 : M w0 B (w1.setCell ⟨x.gw, 13, none⟩ (.slice va out.length vc)) (.row 111 4 (.slice va out.length vc) out.length (dnc out) :: (x'.as ++ (.row 111 4 x.ov o.length (dnc o) :: fr))) := by
        subst hx'
        exact hM1.store (i := 1) (j := 13) rfl (.slice va out.length vc) rfl
      have S2 := S1.sub (List.Sublist.cons_cons _ (List.Sublist.append_left (List.sublist_cons_self _ _) _))
      have S3 := hideIt (S2.perm (l' := x'.as ++ (.row 111 4 (.slice va out.length vc) out.length (dnc out) :: fr)) List.perm_middle)
      rw [hx'] at S3
      clear CT hp hs hM1 S1 S2 hx'
      go_wp2
      go_meet
      case rel => exact ⟨_, out, HP.out, HS.out, S3.out⟩
    | some a =>
      have HX : Hid (o.Perm (tkL x.ds) ∧ Srt o) := by
        rcases HO.out with ⟨h1, -⟩ | h1
        · rw [HOA.out] at h1; cases h1
        · exact h1
      go_wp2
      go_meet
      case rel => exact ⟨x.ov, o, HX.out.1, HX.out.2, HM.out⟩
  case rest =>
    obtain ⟨ov', o', hp, hs, hM⟩ := hcut
    clear HM HO HOA hq hg
    obtain ⟨x', hx'⟩ : ∃ y : Wd, y = { x with ov := ov' } := ⟨_, rfl⟩
    have HX := hideIt hx'
    rw [← hx'] at hM
    have hgw : x'.gw = x.gw := by rw [hx']
    have hov' : x'.ov = ov' := by rw [hx']
    obtain ⟨m, hm⟩ : ∃ m, o'.length = m := ⟨_, rfl⟩
    have HMM := hideIt hm
    have hmn : m ≤ 100000000 := by
      have h1 := hp.out.length_eq
      have h2 : (tkL x.ds).length ≤ x.ds.length := List.length_filterMap_le _ _
      have h3 := HN.out
      omega
    rw [hm] at hM
    obtain ⟨va, vc, rfl⟩ := As.form0 (hM.out.holds (.row 111 4 ov' m (dnc o')) (by simp))
    have A0 := hideIt (M.nil2 (e := 3) (z := 1) (l1 := [_]) (M.nil2 (e := 3) (z := 1) (l1 := [_]) (hM.out.alloc #[.slice none 0 0, .slice none 0 0] 67)))
    clear hM hx' hm
    go_wp2
    obtain ⟨gt, hgt⟩ : ∃ g, wc.heap.size = g := ⟨_, rfl⟩
    rw [hgt] at A0 ⊢
    clear hgt
    go_loopw [6] (fun vi wr => ∃ (i l : Nat) (kv vv : Value), vi = .int .i64 i ∧ i ≤ m ∧ Hid ((tabO (o'.take i)).1.length = l ∧ (tabO (o'.take i)).2.length = l) ∧ l ≤ i ∧ Hid (∀ j d, j < i → o'[j]? = some d → d.t < time) ∧ Hid (M w0 B wr (.blk gt #[kv, vv] 67 :: .row 3 1 kv l (ints (tabO (o'.take i)).1) :: .row 3 1 vv l (ints (tabO (o'.take i)).2) :: (x'.as ++ (.row 111 4 (.slice va m vc) m (dnc o') :: fr))))) (fun vi _ => m - (intOf vi).toNat)
    case atStart => exact ⟨0, 0, _, _, rfl, by omega, ⟨rfl, rfl⟩, by omega, fun j d hj => by omega, A0.out⟩
    case round =>
      clear A0
      obtain ⟨i, l, kv, vv, rfl, hi, hl, hli, hT, hM⟩ := hrel
      have g13 := hM.out.cell (i := 3) rfl 13 x'.ov rfl
      rw [hov', hgw] at g13
      have hi0 : (0 : Int) ≤ (i : Int) := by omega
      have hrow : As.holds wr B (.row 111 4 (.slice va m vc) m (dnc o')) := hM.out.holds _ (by simp)
      by_cases hlt : i < m
      · have him : (i : Int) < (m : Int) := by omega
        obtain ⟨d, hd⟩ : ∃ d, o'[i]? = some d := ⟨_, List.getElem?_eq_getElem (by rw [HMM.out]; exact hlt)⟩
        obtain ⟨gg, cc, hda⟩ := As.form hrow (by omega)
        cases hda
        obtain ⟨y0, y1, y2, y3⟩ := dn_cells hrow.own hd hlt
        have HD := hideIt hd
        have hlg : gg < wr.heap.size := lt_of_cell y0
        have TS := hideIt (tabO_succ o' i d hd)
        clear hrow hd
        by_cases ht : d.t < time
        · have CD := hideIt (do_any gt l kv vv (tabO (o'.take i)).1 (tabO (o'.take i)).2 d.k d.key d.v _ w0 wr B (by omega) hl.out.1 hl.out.2 hM.out)
          have HL := hideIt (tdo_len d.k d.key d.v (tabO (o'.take i)).1 (tabO (o'.take i)).2 (by rw [hl.out.1, hl.out.2]))
          rw [← TS.out] at CD HL
          have hl2 : (tabO (o'.take (i + 1))).1.length ≤ i + 1 := (tabO_len o' (i + 1)).2
          clear hM
          go_wp2_with fail
          refine CD.out.mono ?_
          rintro e w1 ⟨⟨u, rfl⟩, kv', vv', hM1⟩
          have H1 := hideIt hM1
          clear CD hM1 g13 y0 y1 y2 y3
          have HT2 : Hid (∀ j d, j < i + 1 → o'[j]? = some d → d.t < time) := by
            intro j d' hj hd'
            rcases Nat.lt_or_ge j i with h | h
            · exact hT.out j d' h hd'
            · obtain rfl : j = i := by omega
              rw [HD.out] at hd'; cases hd'; exact ht
          go_wp2
          go_roundw
          case rel => exact ⟨i + 1, _, kv', vv', by go_num, by omega, ⟨rfl, HL.out.1.symm⟩, hl2, HT2.out, H1.out⟩
          case measure => simp [intOf]; omega
        · have HE : Hid (ahead o' time = o'.take i) := ahead_eq o' time i hT.out (fun d' hd' => by rw [HD.out] at hd'; cases hd'; exact ht)
          have hM2 : Hid (M w0 B wr (.blk gt #[kv, vv] 67 :: .row 3 1 kv (tabO (ahead o' time)).1.length (ints (tabO (ahead o' time)).1) :: .row 3 1 vv (tabO (ahead o' time)).1.length (ints (tabO (ahead o' time)).2) :: (({ x with ov := .slice (some ⟨gg, 0, none⟩) m vc } : Wd).as ++ (.row 111 4 (.slice (some ⟨gg, 0, none⟩) m vc) o'.length (dnc o') :: fr)))) := by
            unfold Hid; rw [HE.out, hl.out.1, HMM.out, ← HX.out]; exact hM.out
          clear hM
          go_wp2
          go_ret
          exact ⟨_, rfl, _, o', hp.out, hs.out, kv, vv, hM2.out⟩
      · obtain rfl : i = m := by omega
        have HE : Hid (ahead o' time = o'.take i) := ahead_eq o' time i hT.out (fun d' hd' => by have := (List.getElem?_eq_some_iff.1 hd').1; rw [HMM.out] at this; omega)
        have hM2 : Hid (M w0 B wr (.blk gt #[kv, vv] 67 :: .row 3 1 kv (tabO (ahead o' time)).1.length (ints (tabO (ahead o' time)).1) :: .row 3 1 vv (tabO (ahead o' time)).1.length (ints (tabO (ahead o' time)).2) :: (({ x with ov := .slice va i vc } : Wd).as ++ (.row 111 4 (.slice va i vc) o'.length (dnc o') :: fr)))) := by
          unfold Hid; rw [HE.out, hl.out.1, HMM.out, ← HX.out]; exact hM.out
        clear hM hrow
        go_wp2
        go_ret
        exact ⟨_, rfl, _, o', hp.out, hs.out, kv, vv, hM2.out⟩
set_option maxRecDepth 100000 in
set_option maxHeartbeats 3200000 in
theorem says_no (gw tg tc ug uc p : Nat) (T : List ByteArray) (U : List Bool) (w : World) (h : PgR gw tg tc ug uc T U w) (hp : p < 64) (hu : U[p]? = some false) :
    Calls Tryd.prog 57 #[.pointer (some ⟨gw, 0, none⟩), .int .i64 p] w fun e w' => e = .returned (.tuple #[.agg #[.int .i64 0, .int .i64 0, .int .i64 0, .slice none 0 0, .slice none 0 0], .bool false]) ∧ Below w.heap.size w w' := by
  obtain ⟨c0, c1, c2⟩ := h
  obtain ⟨t', b, a1, a2, a3, a4⟩ := c2 p hp
  rw [hu] at a2; cases a2
  have A0 := hideIt ((M.start w).alloc #[.int .i64 0, .int .i64 0, .int .i64 0, .slice none 0 0, .slice none 0 0] 24)
  obtain ⟨W, hW⟩ : ∃ W, w.alloc (.cells #[.int .i64 0, .int .i64 0, .int .i64 0, .slice none 0 0, .slice none 0 0] 24) = W := ⟨_, rfl⟩
  have HW := hideIt hW
  rw [hW] at A0
  have k1 := hideIt (cell_below A0.out.bl _ _ c1)
  have k4 := hideIt (cell_below A0.out.bl _ _ a4)
  obtain ⟨g0, hg0⟩ : ∃ g, w.heap.size = g := ⟨_, rfl⟩
  have HG := hideIt hg0
  rw [hg0] at A0
  clear c0 c1 c2 a3 a4 hu hW hg0
  go_enter Tryd.func57, Tryd.ntmps57
  go_wp2_with fail
  rw [HW.out, HG.out]
  refine (there_any gw ug uc p false _ k1.out k4.out hp).mono ?_
  rintro e w1 ⟨rfl, rfl⟩
  have r0 := A0.out.cell (i := 0) rfl 0 (.int .i64 0) rfl
  have r1 := A0.out.cell (i := 0) rfl 1 (.int .i64 0) rfl
  have r2 := A0.out.cell (i := 0) rfl 2 (.int .i64 0) rfl
  have r3 := A0.out.cell (i := 0) rfl 3 (.slice none 0 0) rfl
  have r4 := A0.out.cell (i := 0) rfl 4 (.slice none 0 0) rfl
  have f0 := A0.out.free (i := 0) rfl 0
  have f1 := A0.out.free (i := 0) rfl 1
  have f2 := A0.out.free (i := 0) rfl 2
  have f3 := A0.out.free (i := 0) rfl 3
  have f4 := A0.out.free (i := 0) rfl 4
  have S5 := hideIt (A0.out.store5 (i := 0) rfl (.int .i64 0) (.int .i64 0) (.int .i64 0) (.slice none 0 0) (.slice none 0 0))
  clear HW k1 k4
  go_wp2
  refine bodyPost_ret (v := .tuple #[.agg #[.int .i64 0, .int .i64 0, .int .i64 0, .slice none 0 0, .slice none 0 0], .bool false]) (by simp [results, Tryd.results57, go_sem, *]) rfl ⟨rfl, ?_⟩
  rw [HG.out]
  exact S5.out.bl
set_option maxRecDepth 100000 in
set_option maxHeartbeats 3200000 in
theorem fitted_yes (gw tg tc ug uc p : Nat) (T : List ByteArray) (U : List Bool) (n : Nd) (fr hg : Int) (w : World) (h : PgR gw tg tc ug uc T U w) (hs : Says T U p n) (hh : hg < n.hi) (hk : n.ks = [] ∨ fr ≤ n.ks[0]?.getD 0) :
    Calls Tryd.prog 102 #[.pointer (some ⟨gw, 0, none⟩), .int .i64 p, .int .i64 n.lv, .int .i64 fr, .int .i64 hg] w fun e w' => e = .returned (.bool true) ∧ Below w.heap.size w w' := by
  have C := hideIt (says_yes gw tg tc ug uc p T U n w h hs)
  have hlv : (n.lv != n.lv) = false := by simp
  have hd : decide (n.hi ≤ hg) = false := by rw [decide_eq_false_iff_not]; omega
  have HK := hideIt hk
  clear h hs hk
  go_enter Tryd.func102, Tryd.ntmps102
  go_wp2_with fail
  refine C.out.mono ?_
  rintro e w1 ⟨kv, vv, rfl, hM⟩
  obtain ⟨ka, kc, rfl⟩ := As.form0 (hM.get (i := 0) rfl)
  obtain ⟨va, vc, rfl⟩ := As.form0 (hM.get (i := 1) rfl)
  have A1 := hideIt (hM.alloc #[.int .i64 n.lv, .int .i64 n.lk, .int .i64 n.hi, .slice ka n.ks.length kc, .slice va n.vs.length vc] 24)
  have RK := owns_rd (hM.get (i := 0) rfl).own
  clear C
  rcases Nat.eq_zero_or_pos n.ks.length with hz | hz
  · have hz1 : ((n.ks.length : Int) == 0) = true := by simp [hz]
    have hz2 : (n.ks.length == 0) = true := by simp [hz]
    clear hz hM RK
    go_wp2
    go_ret
    exact ⟨rfl, A1.out.bl⟩
  · have hz1 : ((n.ks.length : Int) == 0) = false := by rw [beq_eq_false_iff_ne]; omega
    have hz2 : (n.ks.length == 0) = false := by rw [beq_eq_false_iff_ne]; omega
    have hz3 : (0 : Int) < (n.ks.length : Int) := by omega
    obtain ⟨b1, o1, e1, -, x1⟩ := RK.elem 0 hz
    subst e1
    have y1 := x1 _ (Below.refl _ _)
    simp only [Nat.add_zero] at y1
    obtain ⟨a, ha⟩ : ∃ y, n.ks[0]?.getD 0 = y := ⟨_, rfl⟩
    rw [ha] at y1
    have hle : fr ≤ a := by
      rcases HK.out with h1 | h1
      · rw [h1] at hz; simp at hz
      · rw [← ha]; exact h1
    have hlt := lt_of_cell y1
    clear hM RK x1 ha hz
    go_wp2
    go_ret
    exact ⟨rfl, A1.out.bl⟩
def Chain (T : List ByteArray) (U : List Bool) (ps : List Nat) : Prop := ∀ i p, ps[i]? = some p → ∃ n, Says T U p n ∧ n.lk = (ps[i + 1]?.map Int.ofNat).getD (-1)
def natI (ps : List Nat) : List Int := ps.map Int.ofNat
set_option maxRecDepth 100000 in
set_option maxHeartbeats 3200000 in
theorem along_yes (gw tg tc ug uc p0 : Nat) (T : List ByteArray) (U : List Bool) (ps : List Nat) (w : World) (h : PgR gw tg tc ug uc T U w) (hc : Chain T U ps) (h0 : ps[0]? = some p0) (hl : ps.length ≤ 64) :
    Calls Tryd.prog 113 #[.pointer (some ⟨gw, 0, none⟩), .int .i64 p0] w fun e w' => ∃ ov, e = .returned ov ∧ M w w.heap.size w' [.row 3 1 ov ps.length (ints (natI ps))] := by
  obtain ⟨i0, hi0, hz0, hz1, hz2⟩ := info_parts infoInt
  obtain ⟨m, hm⟩ : ∃ m, ps.length = m := ⟨_, rfl⟩
  have HM := hideIt hm
  have HP := hideIt h
  have HC := hideIt hc
  have H0 := hideIt h0
  have A0 := hideIt (M.snocNil (e := 3) (z := 1) (M.start w))
  rw [hm] at hl
  clear h hc h0 hm
  go_enter Tryd.func113, Tryd.ntmps113
  go_wp2
  go_loopw [1, 5] (fun vp ov wr => ∃ (j : Nat) (q : Int), j ≤ m ∧ vp = .int .i64 q ∧ Hid (q = (ps[j]?.map Int.ofNat).getD (-1)) ∧ Hid (M w w.heap.size wr [.row 3 1 ov j (ints (natI (ps.take j)))])) (fun _ ov _ => 64 - (match ov with | .slice _ l _ => l | _ => 0))
  case atStart => exact ⟨0, p0, by omega, rfl, by unfold Hid; rw [H0.out]; rfl, A0.out⟩
  case round =>
    clear A0
    obtain ⟨j, q, hj, rfl, hq, hM⟩ := hrel
    obtain ⟨oa, oc, rfl⟩ := As.form0 (hM.out.get (i := 0) rfl)
    by_cases hlt : j < m
    · obtain ⟨p, hp⟩ : ∃ p, ps[j]? = some p := ⟨_, List.getElem?_eq_getElem (by rw [HM.out]; exact hlt)⟩
      obtain ⟨n, hs, hlk⟩ := HC.out j p hp
      have hqp : q = (p : Int) := by rw [hq.out, hp]; rfl
      subst hqp
      have hq0 : (0 : Int) ≤ (p : Int) := by omega
      have hj64 : (j : Int) < 64 := by omega
      have hj64' : j < 64 := by omega
      have CS := hideIt (says_yes gw tg tc ug uc p T U n wr (HP.out.below hM.out.bl) hs)
      have HLK := hideIt hlk
      have HTK : Hid (ints (natI (ps.take (j + 1))) = ints (natI (ps.take j)) ++ [.int .i64 p]) := by
        unfold Hid natI; rw [List.take_add_one, hp, Option.toList_some, List.map_append, ints, ints, List.map_append]; rfl
      clear hs hlk hp
      go_wp2_with fail
      refine CS.out.mono ?_
      rintro e w1 ⟨kv, vv, rfl, hM1⟩
      have hM2 := hideIt ((hM.out.join hM1).sub (l' := [_]) (List.sublist_append_right _ _))
      obtain ⟨ka, kc, rfl⟩ := As.form0 (hM1.get (i := 0) rfl)
      obtain ⟨va, vc, rfl⟩ := As.form0 (hM1.get (i := 1) rfl)
      have hM3 := hideIt (hM2.out.alloc #[.int .i64 n.lv, .int .i64 n.lk, .int .i64 n.hi, .slice ka n.ks.length kc, .slice va n.vs.length vc] 24)
      clear CS hM1 hM
      go_wp2_with (at_builtin; refine wpList_append_lies _ rfl _ _ 22 rfl w.heap.size 3 i0 (.int .i64 0) 1 8 Tryd.underlying22 hi0 hz0 hz1 hz2 rfl (by decide) _ j (ints (natI (ps.take j))) rfl (World.ownsRow.alloc (hM3.out.get (i := 1) rfl).own _) ⟨_, 0, none⟩ 1 1 [.int .i64 p] rfl rfl (by have := news_one (w1.alloc (.cells #[.int .i64 n.lv, .int .i64 n.lk, .int .i64 n.hi, .slice ka n.ks.length kc, .slice va n.vs.length vc] 24)) (.int .i64 p) 3; simpa using this) (by simp [Value.oneCell']) (by omega) (by unfold maxLen; omega) (by omega) (by have := hM3.out.sz; simp at this ⊢; omega) _ rfl ?_; intro g1 cap1 w5 hown hgrow hat hlt1; rw [← HTK.out] at hown; have H1 := hideIt ((hM3.out.allocd _).lies (i := 1) rfl hown hgrow hat); clear hown hgrow hat; have n1 := H1.out.cell (i := 0) rfl 1 (.int .i64 n.lk) rfl)
      go_roundw
      case rel => exact ⟨j + 1, n.lk, by omega, rfl, HLK.out, H1.out.sub (List.sublist_cons_self _ _)⟩
      case measure => simp; omega
    · obtain rfl : j = m := by omega
      have hqm : q = -1 := by rw [hq.out, List.getElem?_eq_none (by rw [HM.out]; omega)]; rfl
      subst hqm
      have hT : Hid (ps.take j = ps) := List.take_of_length_le (by rw [HM.out]; omega)
      rw [hT.out] at hM
      have hM2 : Hid (M w w.heap.size wr [.row 3 1 (.slice oa j oc) ps.length (ints (natI ps))]) := by unfold Hid; rw [HM.out]; exact hM.out
      clear hM
      go_wp2
      go_ret
      exact ⟨_, rfl, hM2.out⟩
end Go.Proofs.YtajobgmnmbnhiaaDoor.Sap
