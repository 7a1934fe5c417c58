/- WHAT IS PROVED HERE: saplingkeep's copied: an answer with lists of its own that have the same in them. Conditions: named at each theorem. -/
import Derived.Test.YtajobgmnmbnhiaaDoorPt17
import Derived.Test.YtajobgmnmbnhiaaDoorPt46
import Derived.Deep.AppendLies
import Derived.Laws.OwnMore
namespace Go.Proofs.YtajobgmnmbnhiaaDoor.Sap
open Go.RowKit
theorem run_append_nothing {P : Program} {w : World} (base : Nat) (t ty e : TypeId) (i : TypeInfo) (size : Nat) (ht : P.underlying t = some (.slice e)) (hi : P.info? e = some i) (v : Value) (n : Nat) (xs : List Value) (hown : w.ownsRow base e size v n xs) (sa : Option Addr) (sc : Nat) :
    (Builtin.append_ #[t, t] ty #[v, .slice sa 0 sc]).run P w = .ok v w := by
  rcases hown.2 with ⟨rfl, rfl⟩ | ⟨g, cap, cur, rfl, _, _, hnc, _⟩
  · cases sa <;> simp [Builtin.append_, run_underlying ht, sizeOf, typeInfo, hi, Builtin.lenOf, Builtin.firstCells, loadCells, loadCellsFrom]
  · cases sa <;> simp [Builtin.append_, run_underlying ht, sizeOf, typeInfo, hi, Builtin.lenOf, Builtin.firstCells, loadCells, loadCellsFrom, hnc, storeCells]
theorem wpList_append_nothing {P : Program} {w : World} {ops : Array Oper} {rest : List Oper} {o : Oper} {a : Act} {Q : Exit → Act → World → Prop} (hgd : o.guard = none) (s x : Operand) (t : TypeId)
    (ho : o.op = .call { callee := .builtin .append, args := #[s, x], argTypes := #[t, t] })
    (base : Nat) (e : TypeId) (i : TypeInfo) (size : Nat) (ht : P.underlying t = some (.slice e)) (hi : P.info? e = some i)
    (v : Value) (n : Nat) (xs : List Value) (hs : a.eval s = v) (hown : w.ownsRow base e size v n xs) (sa : Option Addr) (m sc : Nat) (hx : a.eval x = .slice sa m sc) (hm : m = 0)
    (h : wpList P ops Q rest (a.put o.dst v) w) : wpList P ops Q (o :: rest) a w := by
  refine wpList_plain hgd fun K hK => ?_
  subst hm
  have hrun := run_append_nothing (P := P) (w := w) base t o.type e i size ht hi v n xs hown sa sc
  unfold Oper.wp
  simp [execOp, ho, resolve, invoke, builtin, hs, hx, hrun, Result.andThen]
  exact hK _ _ h
theorem len_cutc (cs : List (Int × Int)) : (cutc cs).length = cs.length * 2 := by
  induction cs with
  | nil => rfl
  | cons c r ih => unfold cutc at ih ⊢; rw [List.flatMap_cons, List.length_append, ih, List.length_cons]; simp; omega
theorem cutc_one (cs : List (Int × Int)) : ∀ u ∈ cutc cs, u.oneCell' = true := fun u hu => by
  unfold cutc at hu
  obtain ⟨c, -, hc⟩ := List.mem_flatMap.1 hu
  simp only [List.mem_cons, List.not_mem_nil, or_false] at hc
  rcases hc with rfl | rfl <;> rfl
set_option maxRecDepth 100000 in
set_option maxHeartbeats 6400000 in
theorem copied_any (er va pt : Int) (fd : Bool) (kv vv cv : Value) (nk nv nc : Nat) (ks vs : List Int) (cs : List (Int × Int)) (fr : List As) (w0 w : World) (B : Nat) (hnk : ks.length = nk) (hnv : vs.length = nv) (hnc : cs.length = nc) (hk : nk ≤ 1000000) (hv : nv ≤ 1000000) (hc : nc ≤ 1000000) (h : M w0 B w (.row 3 1 kv nk (ints ks) :: .row 3 1 vv nv (ints vs) :: .row 142 2 cv nc (cutc cs) :: fr)) :
    Calls Tryd.prog 85 #[.agg #[.int .i64 er, .bool fd, .int .i64 va, .int .i64 pt, kv, vv, cv]] w fun e w' => ∃ k2 v2 c2, e = .returned (.agg #[.int .i64 er, .bool fd, .int .i64 va, .int .i64 pt, k2, v2, c2]) ∧ M w0 B w' (.row 142 2 c2 nc (cutc cs) :: .row 3 1 v2 nv (ints vs) :: .row 3 1 k2 nk (ints ks) :: .row 3 1 kv nk (ints ks) :: .row 3 1 vv nv (ints vs) :: .row 142 2 cv nc (cutc cs) :: fr) := by
  obtain ⟨i0, hi0, hz0, hz1, hz2⟩ := info_parts infoInt
  obtain ⟨j0, hj0, hy0, hy1, hy2⟩ := info_parts infoCut
  obtain ⟨ak, ck, rfl⟩ := As.form0 (h.get (i := 0) rfl)
  obtain ⟨av, cv0, rfl⟩ := As.form0 (h.get (i := 1) rfl)
  obtain ⟨ac, cc, rfl⟩ := As.form0 (h.get (i := 2) rfl)
  have HNK := hideIt hnk
  have HNV := hideIt hnv
  have HNC := hideIt hnc
  have A0 := ((h.alloc #[.int .i64 er, .bool fd, .int .i64 va, .int .i64 pt, .slice ak nk ck, .slice av nv cv0, .slice ac nc cc] 76).alloc #[.int .i64 0, .bool false, .int .i64 0, .int .i64 0, .slice none 0 0, .slice none 0 0, .slice none 0 0] 76).alloc #[.int .i64 er, .bool fd, .int .i64 va, .int .i64 pt, .slice ak nk ck, .slice av nv cv0, .slice ac nc cc] 76
  rw [alloc_size, alloc_size] at A0
  obtain ⟨w2, hw2⟩ : ∃ W, ((w.alloc (.cells #[.int .i64 er, .bool fd, .int .i64 va, .int .i64 pt, .slice ak nk ck, .slice av nv cv0, .slice ac nc cc] 76)).alloc (.cells #[.int .i64 0, .bool false, .int .i64 0, .int .i64 0, .slice none 0 0, .slice none 0 0, .slice none 0 0] 76)).alloc (.cells #[.int .i64 er, .bool fd, .int .i64 va, .int .i64 pt, .slice ak nk ck, .slice av nv cv0, .slice ac nc cc] 76) = W := ⟨_, rfl⟩
  have HW2 := hideIt hw2
  rw [hw2] at A0
  obtain ⟨ga, hga⟩ : ∃ g, w.heap.size = g := ⟨_, rfl⟩
  have HGA := hideIt hga
  rw [hga] at A0
  obtain ⟨gr, hgr⟩ : ∃ g, ga + 1 = g := ⟨_, rfl⟩
  have HGR := hideIt hgr
  rw [hgr] at A0
  obtain ⟨gb, hgb⟩ : ∃ g, gr + 1 = g := ⟨_, rfl⟩
  have HGB := hideIt hgb
  rw [hgb] at A0
  have HA0 := hideIt (M.nil2 (e := 3) (z := 1) (l1 := []) A0)
  clear h hnk hnv hnc hw2 hga hgr hgb A0
  go_enter Tryd.func85, Tryd.ntmps85
  go_upto_region 2 with fail
  rw [HW2.out, HGA.out, HGR.out, HGB.out]
  clear HW2
  have x4 := HA0.out.cell (i := 3) rfl 4 (.slice ak nk ck) rfl
  have z4 := HA0.out.cell (i := 1) rfl 4 (.slice ak nk ck) rfl
  have f4 := HA0.out.free (i := 1) rfl 4
  go_cut [] (fun wy => ∃ k2, Hid (M w0 B wy (.row 3 1 k2 nk (ints ks) :: .blk gb #[.int .i64 er, .bool fd, .int .i64 va, .int .i64 pt, k2, .slice av nv cv0, .slice ac nc cc] 76 :: .blk gr #[.int .i64 0, .bool false, .int .i64 0, .int .i64 0, .slice none 0 0, .slice none 0 0, .slice none 0 0] 76 :: .blk ga #[.int .i64 er, .bool fd, .int .i64 va, .int .i64 pt, .slice ak nk ck, .slice av nv cv0, .slice ac nc cc] 76 :: .row 3 1 (.slice ak nk ck) nk (ints ks) :: .row 3 1 (.slice av nv cv0) nv (ints vs) :: .row 142 2 (.slice ac nc cc) nc (cutc cs) :: fr)))
  case first =>
    by_cases hz : nk = 0
    · have HZ := hideIt hz
      have HS := hideIt (HA0.out.store (i := 1) (j := 4) rfl (.slice none 0 0) rfl)
      clear hz
      go_wp2_with (at_builtin; refine wpList_append_nothing rfl _ _ 22 rfl B 3 i0 1 Tryd.underlying22 hi0 (.slice none 0 0) 0 [] rfl (HA0.out.get (i := 0) rfl).own _ _ _ rfl HZ.out ?_)
      go_meet
      case rel =>
        refine ⟨.slice none 0 0, ?_⟩
        have h9 := HS.out
        have e : ints ks = [] := by have := HNK.out; have := HZ.out; rw [List.eq_nil_of_length_eq_zero (l := ks) (by omega)]; rfl
        rw [e, HZ.out] at h9 ⊢
        exact h9
    · obtain ⟨sg, scap, hsa⟩ := As.form (HA0.out.get (i := 4) rfl) (by omega)
      cases hsa
      have hkr : As.holds w2 B (.row 3 1 (.slice (some ⟨sg, 0, none⟩) nk ck) nk (ints ks)) := HA0.out.get (i := 4) rfl
      go_wp2_with (at_builtin; refine wpList_append_lies _ rfl _ _ 22 rfl B 3 i0 (.int .i64 0) 1 8 Tryd.underlying22 hi0 hz0 hz1 hz2 rfl (by decide) (.slice none 0 0) 0 [] rfl (HA0.out.get (i := 0) rfl) ⟨_, 0, none⟩ nk _ (ints ks) rfl (by rw [len_ints, Nat.mul_one, HNK.out]) (World.ownsRow.cells hkr rfl) (by simp [ints, Value.oneCell']) (by omega) (by unfold maxLen; omega) (by omega) HA0.out.sz _ rfl ?_; intro g1 cap1 w5 hown hgrow hat hlt1; rw [List.nil_append] at hown; have hm := HA0.out.lies (i := 0) rfl hown hgrow hat; clear z4 f4 x4 hown hgrow hat; have z4 := hm.cell (i := 1) rfl 4 (.slice (some ⟨sg, 0, none⟩) nk ck) rfl; have f4 := hm.free (i := 1) rfl 4; have H1 := hideIt (hm.store (i := 1) (j := 4) rfl (.slice (some ⟨g1, 0, none⟩) (0 + nk) cap1) rfl); clear hm)
      go_meet
      case rel =>
        refine ⟨.slice (some ⟨g1, 0, none⟩) (0 + nk) cap1, ?_⟩
        have h9 := H1.out
        first | exact h9 | (rw [Nat.zero_add] at h9 ⊢; exact h9)
  case rest =>
    obtain ⟨k2, hM1⟩ := hcut
    clear HA0 x4 z4 f4
    have HA1 := hideIt (M.nil2 (e := 3) (z := 1) (l1 := []) hM1.out)
    clear hM1
    go_upto_region 3 with fail
    have x4 := HA1.out.cell (i := 4) rfl 5 (.slice av nv cv0) rfl
    have z4 := HA1.out.cell (i := 2) rfl 5 (.slice av nv cv0) rfl
    have f4 := HA1.out.free (i := 2) rfl 5
    go_cut [] (fun wy => ∃ v2, Hid (M w0 B wy (.row 3 1 v2 nv (ints vs) :: .row 3 1 k2 nk (ints ks) :: .blk gb #[.int .i64 er, .bool fd, .int .i64 va, .int .i64 pt, k2, v2, .slice ac nc cc] 76 :: .blk gr #[.int .i64 0, .bool false, .int .i64 0, .int .i64 0, .slice none 0 0, .slice none 0 0, .slice none 0 0] 76 :: .blk ga #[.int .i64 er, .bool fd, .int .i64 va, .int .i64 pt, .slice ak nk ck, .slice av nv cv0, .slice ac nc cc] 76 :: .row 3 1 (.slice ak nk ck) nk (ints ks) :: .row 3 1 (.slice av nv cv0) nv (ints vs) :: .row 142 2 (.slice ac nc cc) nc (cutc cs) :: fr)))
    case first =>
      by_cases hz : nv = 0
      · have HZ := hideIt hz
        have HS := hideIt (HA1.out.store (i := 2) (j := 5) rfl (.slice none 0 0) rfl)
        clear hz
        go_wp2_with (at_builtin; refine wpList_append_nothing rfl _ _ 22 rfl B 3 i0 1 Tryd.underlying22 hi0 (.slice none 0 0) 0 [] rfl (HA1.out.get (i := 0) rfl).own _ _ _ rfl HZ.out ?_)
        go_meet
        case rel =>
          refine ⟨.slice none 0 0, ?_⟩
          have h9 := HS.out
          have e : ints vs = [] := by have := HNV.out; have := HZ.out; rw [List.eq_nil_of_length_eq_zero (l := vs) (by omega)]; rfl
          rw [e, HZ.out] at h9 ⊢
          exact h9
      · obtain ⟨sg, scap, hsa⟩ := As.form (HA1.out.get (i := 6) rfl) (by omega)
        cases hsa
        have hkr : As.holds wc B (.row 3 1 (.slice (some ⟨sg, 0, none⟩) nv cv0) nv (ints vs)) := HA1.out.get (i := 6) rfl
        go_wp2_with (at_builtin; refine wpList_append_lies _ rfl _ _ 22 rfl B 3 i0 (.int .i64 0) 1 8 Tryd.underlying22 hi0 hz0 hz1 hz2 rfl (by decide) (.slice none 0 0) 0 [] rfl (HA1.out.get (i := 0) rfl) ⟨_, 0, none⟩ nv _ (ints vs) rfl (by rw [len_ints, Nat.mul_one, HNV.out]) (World.ownsRow.cells hkr rfl) (by simp [ints, Value.oneCell']) (by omega) (by unfold maxLen; omega) (by omega) HA1.out.sz _ rfl ?_; intro g1 cap1 w5 hown hgrow hat hlt1; rw [List.nil_append] at hown; have hm := HA1.out.lies (i := 0) rfl hown hgrow hat; clear z4 f4 x4 hown hgrow hat; have z4 := hm.cell (i := 2) rfl 5 (.slice (some ⟨sg, 0, none⟩) nv cv0) rfl; have f4 := hm.free (i := 2) rfl 5; have H1 := hideIt (hm.store (i := 2) (j := 5) rfl (.slice (some ⟨g1, 0, none⟩) (0 + nv) cap1) rfl); clear hm)
        go_meet
        case rel =>
          refine ⟨.slice (some ⟨g1, 0, none⟩) (0 + nv) cap1, ?_⟩
          have h9 := H1.out
          first | exact h9 | (rw [Nat.zero_add] at h9 ⊢; exact h9)
    case rest =>
      obtain ⟨v2, hM2⟩ := hcut
      clear HA1 x4 z4 f4
      have HA2 := hideIt (M.nil2 (e := 142) (z := 2) (l1 := []) hM2.out)
      clear hM2
      go_upto_region 4 with fail
      have x4 := HA2.out.cell (i := 5) rfl 6 (.slice ac nc cc) rfl
      have z4 := HA2.out.cell (i := 3) rfl 6 (.slice ac nc cc) rfl
      have f4 := HA2.out.free (i := 3) rfl 6
      go_cut [] (fun wy => ∃ c2, Hid (M w0 B wy (.row 142 2 c2 nc (cutc cs) :: .row 3 1 v2 nv (ints vs) :: .row 3 1 k2 nk (ints ks) :: .blk gb #[.int .i64 er, .bool fd, .int .i64 va, .int .i64 pt, k2, v2, c2] 76 :: .blk gr #[.int .i64 0, .bool false, .int .i64 0, .int .i64 0, .slice none 0 0, .slice none 0 0, .slice none 0 0] 76 :: .blk ga #[.int .i64 er, .bool fd, .int .i64 va, .int .i64 pt, .slice ak nk ck, .slice av nv cv0, .slice ac nc cc] 76 :: .row 3 1 (.slice ak nk ck) nk (ints ks) :: .row 3 1 (.slice av nv cv0) nv (ints vs) :: .row 142 2 (.slice ac nc cc) nc (cutc cs) :: fr)))
      case first =>
        by_cases hz : nc = 0
        · have HZ := hideIt hz
          have HS := hideIt (HA2.out.store (i := 3) (j := 6) rfl (.slice none 0 0) rfl)
          clear hz
          go_wp2_with (at_builtin; refine wpList_append_nothing rfl _ _ 74 rfl B 142 j0 2 Tryd.underlying74 hj0 (.slice none 0 0) 0 [] rfl (HA2.out.get (i := 0) rfl).own _ _ _ rfl HZ.out ?_)
          go_meet
          case rel =>
            refine ⟨.slice none 0 0, ?_⟩
            have h9 := HS.out
            have e : cutc cs = [] := by have := HNC.out; have := HZ.out; rw [List.eq_nil_of_length_eq_zero (l := cs) (by omega)]; rfl
            rw [e, HZ.out] at h9 ⊢
            exact h9
        · obtain ⟨sg, scap, hsa⟩ := As.form (HA2.out.get (i := 8) rfl) (by omega)
          cases hsa
          have hkr : As.holds wc B (.row 142 2 (.slice (some ⟨sg, 0, none⟩) nc cc) nc (cutc cs)) := HA2.out.get (i := 8) rfl
          go_wp2_with (at_builtin; refine wpList_append_lies _ rfl _ _ 74 rfl B 142 j0 (.agg #[.int .i64 0, .int .i64 0]) 2 16 Tryd.underlying74 hj0 hy0 hy1 hy2 rfl (by decide) (.slice none 0 0) 0 [] rfl (HA2.out.get (i := 0) rfl) ⟨_, 0, none⟩ nc _ (cutc cs) rfl (by rw [len_cutc, HNC.out]) (World.ownsRow.cells hkr rfl) (cutc_one cs) (by omega) (by unfold maxLen; omega) (by omega) HA2.out.sz _ rfl ?_; intro g1 cap1 w5 hown hgrow hat hlt1; rw [List.nil_append] at hown; have hm := HA2.out.lies (i := 0) rfl hown hgrow hat; clear z4 f4 x4 hown hgrow hat; have z4 := hm.cell (i := 3) rfl 6 (.slice (some ⟨sg, 0, none⟩) nc cc) rfl; have f4 := hm.free (i := 3) rfl 6; have H1 := hideIt (hm.store (i := 3) (j := 6) rfl (.slice (some ⟨g1, 0, none⟩) (0 + nc) cap1) rfl); clear hm)
          go_meet
          case rel =>
            refine ⟨.slice (some ⟨g1, 0, none⟩) (0 + nc) cap1, ?_⟩
            have h9 := H1.out
            first | exact h9 | (rw [Nat.zero_add] at h9 ⊢; exact h9)
      case rest =>
        obtain ⟨c2, hM3⟩ := hcut
        clear HA2 x4 z4 f4
        obtain ⟨c2a, c2c, rfl⟩ := As.form0 (hM3.out.get (i := 0) rfl)
        obtain ⟨v2a, v2c, rfl⟩ := As.form0 (hM3.out.get (i := 1) rfl)
        obtain ⟨k2a, k2c, rfl⟩ := As.form0 (hM3.out.get (i := 2) rfl)
        have r0 := hM3.out.cell (i := 3) rfl 0 (.int .i64 er) rfl
        have r1 := hM3.out.cell (i := 3) rfl 1 (.bool fd) rfl
        have r2 := hM3.out.cell (i := 3) rfl 2 (.int .i64 va) rfl
        have r3 := hM3.out.cell (i := 3) rfl 3 (.int .i64 pt) rfl
        have r4 := hM3.out.cell (i := 3) rfl 4 (.slice k2a nk k2c) rfl
        have r5 := hM3.out.cell (i := 3) rfl 5 (.slice v2a nv v2c) rfl
        have r6 := hM3.out.cell (i := 3) rfl 6 (.slice c2a nc c2c) rfl
        have s0 := hM3.out.cell (i := 4) rfl 0 (.int .i64 0) rfl
        have s1 := hM3.out.cell (i := 4) rfl 1 (.bool false) rfl
        have s2 := hM3.out.cell (i := 4) rfl 2 (.int .i64 0) rfl
        have s3 := hM3.out.cell (i := 4) rfl 3 (.int .i64 0) rfl
        have s4 := hM3.out.cell (i := 4) rfl 4 (.slice none 0 0) rfl
        have s5 := hM3.out.cell (i := 4) rfl 5 (.slice none 0 0) rfl
        have s6 := hM3.out.cell (i := 4) rfl 6 (.slice none 0 0) rfl
        have f0 := hM3.out.free (i := 4) rfl 0
        have f1 := hM3.out.free (i := 4) rfl 1
        have f2 := hM3.out.free (i := 4) rfl 2
        have f3 := hM3.out.free (i := 4) rfl 3
        have f4 := hM3.out.free (i := 4) rfl 4
        have f5 := hM3.out.free (i := 4) rfl 5
        have f6 := hM3.out.free (i := 4) rfl 6
        have S7 := hideIt ((hM3.out.store7 (i := 4) rfl (.int .i64 er) (.bool fd) (.int .i64 va) (.int .i64 pt) (.slice k2a nk k2c) (.slice v2a nv v2c) (.slice c2a nc c2c)).sub (l' := (.row 142 2 (.slice c2a nc c2c) nc (cutc cs) :: .row 3 1 (.slice v2a nv v2c) nv (ints vs) :: .row 3 1 (.slice k2a nk k2c) nk (ints ks) :: .row 3 1 (.slice ak nk ck) nk (ints ks) :: .row 3 1 (.slice av nv cv0) nv (ints vs) :: .row 142 2 (.slice ac nc cc) nc (cutc cs) :: fr)) (List.Sublist.cons_cons _ (List.Sublist.cons_cons _ (List.Sublist.cons_cons _ (List.sublist_append_right [_, _, _] _)))))
        clear hM3
        go_wp2
        refine bodyPost_ret (v := .agg #[.int .i64 er, .bool fd, .int .i64 va, .int .i64 pt, .slice k2a nk k2c, .slice v2a nv v2c, .slice c2a nc c2c]) (by simp [results, Tryd.results85, go_sem, *]) rfl ⟨_, _, _, rfl, S7.out⟩
theorem crd_of_row {w : World} {B n : Nat} {cv : Value} {cs : List (Int × Int)} (hn : cs.length = n) (h : As.holds w B (.row 142 2 cv n (cutc cs))) : CRd w cv cs := by
  subst hn
  rcases Nat.eq_zero_or_pos cs.length with hz | hz
  · obtain ⟨ao, cap, rfl⟩ := As.form0 h
    exact ⟨ao, cap, rfl, fun hp => by omega⟩
  · obtain ⟨g, cap, rfl⟩ := As.form h hz
    refine ⟨some ⟨g, 0, none⟩, cap, rfl, fun _ => ⟨g, rfl, fun j c hj => ?_⟩⟩
    have hjl := (List.getElem?_eq_some_iff.1 hj).1
    obtain ⟨h1, h2⟩ := cutc_at hj
    exact ⟨by rw [World.ownsRow.cellAt h.own _ (by omega)]; exact h1, by rw [World.ownsRow.cellAt h.own _ (by omega)]; exact h2⟩
structure Stdy (f : ByteArray) (ak ap av : Int) (at' : ByteArray) (rv rp : Int) (rt : ByteArray) (rd : Bool) (nx : ByteArray) (en : Bool) (er : Int) (fd : Bool) (va pt : Int) (ks vs : List Int) (cs : List (Int × Int)) : Prop where
  next : ∀ W, Tab W → Calls Tryd.prog 26 #[.string f] W fun e w' => e = .returned (.tuple #[.agg #[.int .i64 ak, .int .i64 ap, .int .i64 av, .string at'], .int .i64 0]) ∧ Below W.heap.size W w'
  tell : ∀ W, Tab W → Calls Tryd.prog 61 #[.string f, .agg #[.int .i64 rv, .int .i64 rp, .string rt, .bool rd]] W fun e w' => ∃ kv vv cv, e = .returned (.tuple #[.string nx, .agg #[.int .i64 er, .bool fd, .int .i64 va, .int .i64 pt, kv, vv, cv], .bool en, .int .i64 0]) ∧ M W W.heap.size w' [.row 3 1 kv ks.length (ints ks), .row 3 1 vv vs.length (ints vs), .row 142 2 cv cs.length (cutc cs)]
set_option maxRecDepth 100000 in
set_option maxHeartbeats 6400000 in
theorem again_yes (f at' rt nx : ByteArray) (ak ap av rv rp er va pt : Int) (rd en fd : Bool) (kv vv cv : Value) (ks vs : List Int) (cs : List (Int × Int)) (w : World) (htab : Tab w) (S : Stdy f ak ap av at' rv rp rt rd nx en er fd va pt ks vs cs) (rk : Rd w kv ks) (rv' : Rd w vv vs) (rc : CRd w cv cs) (hk : ks.length ≤ 1000000) (hv : vs.length ≤ 1000000) (hc : cs.length ≤ 1000000) :
    Calls Tryd.prog 35 #[.agg #[.string f, .int .i64 ak, .int .i64 ap, .int .i64 av, .string at', .int .i64 rv, .int .i64 rp, .string rt, .bool rd, .string nx, .bool en, .int .i64 er, .bool fd, .int .i64 va, .int .i64 pt, kv, vv, cv]] w fun e w' => e = .returned (.bool true) ∧ Below w.heap.size w w' := by
  have HTB : Hid (∀ W, Below w.heap.size w W → Tab W) := fun W hb => htab.below hb
  have HS := hideIt S
  have HRK := hideIt rk
  have HRV := hideIt rv'
  have HRC := hideIt rc
  obtain ⟨ak0, ck, rfl⟩ := rk.len
  obtain ⟨av0, cv0, rfl⟩ := rv'.len
  obtain ⟨ac, cc, rfl, -⟩ := rc
  have A0 := hideIt ((M.start w).alloc #[.string f, .int .i64 ak, .int .i64 ap, .int .i64 av, .string at', .int .i64 rv, .int .i64 rp, .string rt, .bool rd, .string nx, .bool en, .int .i64 er, .bool fd, .int .i64 va, .int .i64 pt, .slice ak0 ks.length ck, .slice av0 vs.length cv0, .slice ac cs.length cc] 78)
  obtain ⟨gc, hgc⟩ : ∃ g, w.heap.size = g := ⟨_, rfl⟩
  have HGC := hideIt hgc
  have hb1 : (ak != ak) = false := by simp
  have hb2 : (ap != ap) = false := by simp
  have hb3 : (av != av) = false := by simp
  clear rk rv' htab S hgc
  go_enter Tryd.func35, Tryd.ntmps35
  go_upto_region 1 with fail
  obtain ⟨W1, hW1⟩ : ∃ W, w.alloc (.cells #[.string f, .int .i64 ak, .int .i64 ap, .int .i64 av, .string at', .int .i64 rv, .int .i64 rp, .string rt, .bool rd, .string nx, .bool en, .int .i64 er, .bool fd, .int .i64 va, .int .i64 pt, .slice ak0 ks.length ck, .slice av0 vs.length cv0, .slice ac cs.length cc] 78) = W := ⟨_, rfl⟩
  rw [hW1] at A0 ⊢
  rw [HGC.out] at A0 ⊢
  clear hW1
  have c0 := A0.out.cell (i := 0) rfl 0 (.string f) rfl
  have CN1 := hideIt (HS.out.next W1 (HTB.out _ (by have := A0.out.bl; rw [← HGC.out] at this; exact this)))
  go_wp2_with fail
  refine CN1.out.mono ?_
  rintro e w2 ⟨rfl, hb⟩
  have A1 := hideIt ((A0.out.below hb).alloc #[.int .i64 ak, .int .i64 ap, .int .i64 av, .string at'] 45)
  obtain ⟨W2, hW2⟩ : ∃ W, w2.alloc (.cells #[.int .i64 ak, .int .i64 ap, .int .i64 av, .string at'] 45) = W := ⟨_, rfl⟩
  obtain ⟨g1, hg1⟩ : ∃ g, w2.heap.size = g := ⟨_, rfl⟩
  rw [hW2, hg1] at A1
  have HW2 := hideIt hW2
  have HG1 := hideIt hg1
  clear CN1 hb A0 c0 hW2 hg1
  go_upto_region 2 with fail
  rw [HW2.out, HG1.out]
  clear HW2 HG1
  have c0 := A1.out.cell (i := 1) rfl 0 (.string f) rfl
  have CN2 := hideIt (HS.out.next W2 (HTB.out _ (by have := A1.out.bl; rw [← HGC.out] at this; exact this)))
  go_wp2_with fail
  refine CN2.out.mono ?_
  rintro e w3 ⟨rfl, hb⟩
  have A2 := hideIt ((A1.out.below hb).alloc #[.int .i64 ak, .int .i64 ap, .int .i64 av, .string at'] 45)
  obtain ⟨W3, hW3⟩ : ∃ W, w3.alloc (.cells #[.int .i64 ak, .int .i64 ap, .int .i64 av, .string at'] 45) = W := ⟨_, rfl⟩
  obtain ⟨g2, hg2⟩ : ∃ g, w3.heap.size = g := ⟨_, rfl⟩
  rw [hW3, hg2] at A2
  have HW3 := hideIt hW3
  have HG2 := hideIt hg2
  clear CN2 hb A1 c0 hW3 hg2
  go_upto_region 3 with fail
  rw [HW3.out, HG2.out]
  clear HW3 HG2
  have c0 := A2.out.cell (i := 2) rfl 0 (.string f) rfl
  have c5 := A2.out.cell (i := 2) rfl 5 (.int .i64 rv) rfl
  have c6 := A2.out.cell (i := 2) rfl 6 (.int .i64 rp) rfl
  have c7 := A2.out.cell (i := 2) rfl 7 (.string rt) rfl
  have c8 := A2.out.cell (i := 2) rfl 8 (.bool rd) rfl
  have CT := hideIt (HS.out.tell W3 (HTB.out _ (by have := A2.out.bl; rw [← HGC.out] at this; exact this)))
  go_wp2_with fail
  refine CT.out.mono ?_
  rintro e w4 ⟨k3, v3, c3, rfl, hM⟩
  obtain ⟨k3a, k3c, rfl⟩ := As.form0 (hM.get (i := 0) rfl)
  obtain ⟨v3a, v3c, rfl⟩ := As.form0 (hM.get (i := 1) rfl)
  obtain ⟨c3a, c3c, rfl⟩ := As.form0 (hM.get (i := 2) rfl)
  have A3 := hideIt ((A2.out.join hM).alloc #[.int .i64 er, .bool fd, .int .i64 va, .int .i64 pt, .slice k3a ks.length k3c, .slice v3a vs.length v3c, .slice c3a cs.length c3c] 76)
  obtain ⟨W4, hWN⟩ : ∃ W, w4.alloc (.cells #[.int .i64 er, .bool fd, .int .i64 va, .int .i64 pt, .slice k3a ks.length k3c, .slice v3a vs.length v3c, .slice c3a cs.length c3c] 76) = W := ⟨_, rfl⟩
  obtain ⟨g3, hgN⟩ : ∃ g, w4.heap.size = g := ⟨_, rfl⟩
  rw [hWN, hgN] at A3
  have HWN := hideIt hWN
  have HGN := hideIt hgN
  clear CT hM A2 c0 c5 c6 c7 c8 hWN hgN
  go_upto_region 4 with fail
  rw [HWN.out, HGN.out]
  clear HWN HGN
  have c0 := A3.out.cell (i := 6) rfl 0 (.string f) rfl
  have c5 := A3.out.cell (i := 6) rfl 5 (.int .i64 rv) rfl
  have c6 := A3.out.cell (i := 6) rfl 6 (.int .i64 rp) rfl
  have c7 := A3.out.cell (i := 6) rfl 7 (.string rt) rfl
  have c8 := A3.out.cell (i := 6) rfl 8 (.bool rd) rfl
  have CT := hideIt (HS.out.tell W4 (HTB.out _ (by have := A3.out.bl; rw [← HGC.out] at this; exact this)))
  go_wp2_with fail
  refine CT.out.mono ?_
  rintro e w5 ⟨k4, v4, c4, rfl, hM⟩
  obtain ⟨k4a, k4c, rfl⟩ := As.form0 (hM.get (i := 0) rfl)
  obtain ⟨v4a, v4c, rfl⟩ := As.form0 (hM.get (i := 1) rfl)
  obtain ⟨c4a, c4c, rfl⟩ := As.form0 (hM.get (i := 2) rfl)
  have A4 := hideIt ((A3.out.join hM).alloc #[.int .i64 er, .bool fd, .int .i64 va, .int .i64 pt, .slice k4a ks.length k4c, .slice v4a vs.length v4c, .slice c4a cs.length c4c] 76)
  obtain ⟨W5, hWN⟩ : ∃ W, w5.alloc (.cells #[.int .i64 er, .bool fd, .int .i64 va, .int .i64 pt, .slice k4a ks.length k4c, .slice v4a vs.length v4c, .slice c4a cs.length c4c] 76) = W := ⟨_, rfl⟩
  obtain ⟨g4, hgN⟩ : ∃ g, w5.heap.size = g := ⟨_, rfl⟩
  rw [hWN, hgN] at A4
  have HWN := hideIt hWN
  have HGN := hideIt hgN
  clear CT hM A3 c0 c5 c6 c7 c8 hWN hgN
  go_upto_region 5 with fail
  rw [HWN.out, HGN.out]
  clear HWN HGN
  have p0 := A4.out.cell (i := 4) rfl 0 (.int .i64 er) rfl
  have p1 := A4.out.cell (i := 4) rfl 1 (.bool fd) rfl
  have p2 := A4.out.cell (i := 4) rfl 2 (.int .i64 va) rfl
  have p3 := A4.out.cell (i := 4) rfl 3 (.int .i64 pt) rfl
  have p4 := A4.out.cell (i := 4) rfl 4 (.slice k3a ks.length k3c) rfl
  have p5 := A4.out.cell (i := 4) rfl 5 (.slice v3a vs.length v3c) rfl
  have p6 := A4.out.cell (i := 4) rfl 6 (.slice c3a cs.length c3c) rfl
  have q0 := A4.out.cell (i := 0) rfl 0 (.int .i64 er) rfl
  have q1 := A4.out.cell (i := 0) rfl 1 (.bool fd) rfl
  have q2 := A4.out.cell (i := 0) rfl 2 (.int .i64 va) rfl
  have q3 := A4.out.cell (i := 0) rfl 3 (.int .i64 pt) rfl
  have q4 := A4.out.cell (i := 0) rfl 4 (.slice k4a ks.length k4c) rfl
  have q5 := A4.out.cell (i := 0) rfl 5 (.slice v4a vs.length v4c) rfl
  have q6 := A4.out.cell (i := 0) rfl 6 (.slice c4a cs.length c4c) rfl
  have c11 := A4.out.cell (i := 10) rfl 11 (.int .i64 er) rfl
  have c12 := A4.out.cell (i := 10) rfl 12 (.bool fd) rfl
  have c13 := A4.out.cell (i := 10) rfl 13 (.int .i64 va) rfl
  have c14 := A4.out.cell (i := 10) rfl 14 (.int .i64 pt) rfl
  have c15 := A4.out.cell (i := 10) rfl 15 (.slice ak0 ks.length ck) rfl
  have c16 := A4.out.cell (i := 10) rfl 16 (.slice av0 vs.length cv0) rfl
  have c17 := A4.out.cell (i := 10) rfl 17 (.slice ac cs.length cc) rfl
  have hbl : Hid (Below w.heap.size w W5) := by have := A4.out.bl; rw [← HGC.out] at this; exact this
  have CL1 := hideIt (alike_yes er va pt fd _ _ _ _ _ _ ks vs cs W5 (owns_rd (A4.out.get (i := 5) rfl).own) (HRK.out.below hbl.out) (owns_rd (A4.out.get (i := 6) rfl).own) (HRV.out.below hbl.out) (crd_of_row rfl (A4.out.get (i := 7) rfl)) (HRC.out.below hbl.out) hk hv hc)
  go_wp2_with fail
  refine CL1.out.mono ?_
  rintro e w6 ⟨rfl, hb6⟩
  have A5 := hideIt (A4.out.below hb6)
  clear CL1 A4 hb6 hbl p0 p1 p2 p3 p4 p5 p6 q0 q1 q2 q3 q4 q5 q6 c11 c12 c13 c14 c15 c16 c17
  have q0 := A5.out.cell (i := 0) rfl 0 (.int .i64 er) rfl
  have q1 := A5.out.cell (i := 0) rfl 1 (.bool fd) rfl
  have q2 := A5.out.cell (i := 0) rfl 2 (.int .i64 va) rfl
  have q3 := A5.out.cell (i := 0) rfl 3 (.int .i64 pt) rfl
  have q4 := A5.out.cell (i := 0) rfl 4 (.slice k4a ks.length k4c) rfl
  have q5 := A5.out.cell (i := 0) rfl 5 (.slice v4a vs.length v4c) rfl
  have q6 := A5.out.cell (i := 0) rfl 6 (.slice c4a cs.length c4c) rfl
  have c11 := A5.out.cell (i := 10) rfl 11 (.int .i64 er) rfl
  have c12 := A5.out.cell (i := 10) rfl 12 (.bool fd) rfl
  have c13 := A5.out.cell (i := 10) rfl 13 (.int .i64 va) rfl
  have c14 := A5.out.cell (i := 10) rfl 14 (.int .i64 pt) rfl
  have c15 := A5.out.cell (i := 10) rfl 15 (.slice ak0 ks.length ck) rfl
  have c16 := A5.out.cell (i := 10) rfl 16 (.slice av0 vs.length cv0) rfl
  have c17 := A5.out.cell (i := 10) rfl 17 (.slice ac cs.length cc) rfl
  have hbl : Hid (Below w.heap.size w w6) := by have := A5.out.bl; rw [← HGC.out] at this; exact this
  have CL2 := hideIt (alike_yes er va pt fd _ _ _ _ _ _ ks vs cs w6 (owns_rd (A5.out.get (i := 1) rfl).own) (HRK.out.below hbl.out) (owns_rd (A5.out.get (i := 2) rfl).own) (HRV.out.below hbl.out) (crd_of_row rfl (A5.out.get (i := 3) rfl)) (HRC.out.below hbl.out) hk hv hc)
  go_wp2_with fail
  refine CL2.out.mono ?_
  rintro e w7 ⟨rfl, hb7⟩
  have A6 := hideIt (A5.out.below hb7)
  clear CL2 A5 hb7 hbl q0 q1 q2 q3 q4 q5 q6 c11 c12 c13 c14 c15 c16 c17
  have x0 := A6.out.cell (i := 9) rfl 0 (.int .i64 ak) rfl
  have x1 := A6.out.cell (i := 9) rfl 1 (.int .i64 ap) rfl
  have x2 := A6.out.cell (i := 9) rfl 2 (.int .i64 av) rfl
  have x3 := A6.out.cell (i := 9) rfl 3 (.string at') rfl
  have y0 := A6.out.cell (i := 8) rfl 0 (.int .i64 ak) rfl
  have y1 := A6.out.cell (i := 8) rfl 1 (.int .i64 ap) rfl
  have y2 := A6.out.cell (i := 8) rfl 2 (.int .i64 av) rfl
  have y3 := A6.out.cell (i := 8) rfl 3 (.string at') rfl
  have c1 := A6.out.cell (i := 10) rfl 1 (.int .i64 ak) rfl
  have c2 := A6.out.cell (i := 10) rfl 2 (.int .i64 ap) rfl
  have c3 := A6.out.cell (i := 10) rfl 3 (.int .i64 av) rfl
  have c4 := A6.out.cell (i := 10) rfl 4 (.string at') rfl
  have c9 := A6.out.cell (i := 10) rfl 9 (.string nx) rfl
  have c10 := A6.out.cell (i := 10) rfl 10 (.bool en) rfl
  have HB := hideIt (show Below w.heap.size w w7 by have := A6.out.bl; rw [← HGC.out] at this; exact this)
  clear A6
  go_wp2
  go_ret
  exact ⟨rfl, HB.out⟩
structure Rc where
  f : ByteArray
  ak : Int
  ap : Int
  av : Int
  at' : ByteArray
  rv : Int
  rp : Int
  rt : ByteArray
  rd : Bool
  nx : ByteArray
  en : Bool
  er : Int
  fd : Bool
  va : Int
  pt : Int
  kv : Value
  vv : Value
  cv : Value
  ks : List Int
  vs : List Int
  cs : List (Int × Int)
def Rc.cells (r : Rc) : List Value := [.string r.f, .int .i64 r.ak, .int .i64 r.ap, .int .i64 r.av, .string r.at', .int .i64 r.rv, .int .i64 r.rp, .string r.rt, .bool r.rd, .string r.nx, .bool r.en, .int .i64 r.er, .bool r.fd, .int .i64 r.va, .int .i64 r.pt, r.kv, r.vv, r.cv]
def Rc.as (r : Rc) : List As := [.row 142 2 r.cv r.cs.length (cutc r.cs), .row 3 1 r.vv r.vs.length (ints r.vs), .row 3 1 r.kv r.ks.length (ints r.ks)]
structure Rc.ok (r : Rc) : Prop where
  sd : Stdy r.f r.ak r.ap r.av r.at' r.rv r.rp r.rt r.rd r.nx r.en r.er r.fd r.va r.pt r.ks r.vs r.cs
  kl : r.ks.length ≤ 1000000
  vl : r.vs.length ≤ 1000000
  cl : r.cs.length ≤ 1000000
structure Wk where
  wd : Wd
  cv : Value
  C : List Rc
def Wk.wk (x : Wk) : Wd := { x.wd with kp := true, cv := x.cv }
def Wk.ex (x : Wk) : List As := .row 78 18 x.cv x.C.length (x.C.flatMap Rc.cells) :: x.C.reverse.flatMap Rc.as
def Wk.as (x : Wk) : List As := x.wk.as ++ x.ex
theorem M.k14 {w0 W : World} {B : Nat} {x : Wk} {fr : List As} (h : M w0 B W (x.as ++ fr)) : W.cell? ⟨x.wd.gw, 14, none⟩ = some (.bool false) := h.cell (i := 0) rfl 14 (.bool false) rfl
theorem M.kf14 {w0 W : World} {B : Nat} {x : Wk} {fr : List As} (h : M w0 B W (x.as ++ fr)) : W.frozen? ⟨x.wd.gw, 14, none⟩ = false := h.free (i := 0) rfl 14
theorem M.ks14 {w0 W : World} {B : Nat} {x : Wk} {fr : List As} (h : M w0 B W (x.as ++ fr)) : M w0 B (W.setCell ⟨x.wd.gw, 14, none⟩ (.bool false)) (x.as ++ fr) := h.store (i := 0) (j := 14) rfl (.bool false) rfl
theorem M.k4 {w0 W : World} {B : Nat} {x : Wk} {fr : List As} (h : M w0 B W (x.as ++ fr)) : W.cell? ⟨x.wd.gw, 4, none⟩ = some (.slice (some ⟨x.wd.bg, 0, none⟩) 64 x.wd.bc) := h.cell (i := 0) rfl 4 (.slice (some ⟨x.wd.bg, 0, none⟩) 64 x.wd.bc) rfl
theorem M.k12 {w0 W : World} {B : Nat} {x : Wk} {fr : List As} (h : M w0 B W (x.as ++ fr)) : W.cell? ⟨x.wd.gw, 12, none⟩ = some x.cv := h.cell (i := 0) rfl 12 x.cv rfl
theorem M.kb {w0 W : World} {B : Nat} {x : Wk} {fr : List As} (h : M w0 B W (x.as ++ fr)) (c : Nat) (b : Int) (hb : x.wd.bs[c]? = some b) : W.cell? ⟨x.wd.bg, c, none⟩ = some (.int .i64 b) := h.rowCell (i := 1) rfl c (.int .i64 b) (ints_get hb)
set_option maxRecDepth 100000 in
set_option maxHeartbeats 6400000 in
theorem alone_genk (c gw : Nat) (I : Wk → Prop) (rk : Wk → Nat) (fr : List As) (w0 w : World) (B : Nat) (x0 : Wk) (hc : c < 64) (hgw : ∀ x, I x → x.wd.gw = gw) (hbs : ∀ x, I x → x.wd.bs[c]? = some (-1) ∨ (∃ i : Nat, x.wd.bs[c]? = some (i : Int)) ∧ 0 < rk x)
    (hstep : ∀ x (i : Nat) W, I x → x.wd.bs[c]? = some (i : Int) → M w0 B W (x.as ++ fr) → Calls Tryd.prog 56 #[.pointer (some ⟨gw, 0, none⟩), .int .i64 c] W fun e w' => (∃ u, e = .returned u) ∧ ∃ x', I x' ∧ rk x' < rk x ∧ M w0 B w' (x'.as ++ fr))
    (hI : I x0) (h0 : rk x0 ≤ 1000) (h : M w0 B w (x0.as ++ fr)) :
    Calls Tryd.prog 37 #[.pointer (some ⟨gw, 0, none⟩), .int .i64 c] w fun e w' => (∃ u, e = .returned u) ∧ ∃ x', I x' ∧ x'.wd.bs[c]? = some (-1) ∧ M w0 B w' (x'.as ++ fr) := by
  have hc0 : (0 : Int) ≤ (c : Int) := by omega
  have hc1 : (c : Int) < 64 := by omega
  have HM := hideIt h
  have HI := hideIt hI
  have HGW := hideIt hgw
  have HBS := hideIt hbs
  have HS := hideIt hstep
  clear h hI hgw hbs hstep
  go_enter Tryd.func37, Tryd.ntmps37
  go_wp2
  go_loopw [4] (fun y wr => ∃ (j n : Nat) (x : Wk), y = .int .i64 j ∧ j + n ≤ 1000 ∧ Hid (rk x = n) ∧ Hid (I x) ∧ Hid (M w0 B wr (x.as ++ fr))) (fun i _ => 1000 - (intOf i).toNat)
  case atStart => exact ⟨0, rk x0, x0, rfl, by omega, rfl, HI.out, HM.out⟩
  case round =>
    clear HM HI
    obtain ⟨j, n, x, rfl, hj, hr, hI, hM⟩ := hrel
    have hg := HGW.out x hI.out
    subst hg
    have g14 := hM.out.k14
    have g4 := hM.out.k4
    rcases HBS.out x hI.out with hb | ⟨⟨i, hb⟩, hpos⟩
    · have b0 := hM.out.kb c _ hb
      have e14 := hM.out.kf14
      have S1 := hideIt hM.out.ks14
      have HB := hideIt hb
      clear hM hb
      by_cases hj1 : (j : Int) < 1000
      · go_wp2
        exact bodyPost_end (results_none Tryd.results37 _ _ _) rfl ⟨⟨_, rfl⟩, x, hI.out, HB.out, S1.out⟩
      · go_wp2
        exact bodyPost_end (results_none Tryd.results37 _ _ _) rfl ⟨⟨_, rfl⟩, x, hI.out, HB.out, S1.out⟩
    · have b0 := hM.out.kb c _ hb
      rw [hr.out] at hpos
      have hj1 : (j : Int) < 1000 := by omega
      have hi0 : (0 : Int) ≤ (i : Int) := by omega
      have CM := hideIt (HS.out x i wr hI.out hb hM.out)
      clear hM hb hI
      go_wp2_with fail
      refine CM.out.mono ?_
      rintro e w1 ⟨⟨u, rfl⟩, x', hI', hr', hM'⟩
      have HI2 := hideIt hI'
      have HM2 := hideIt hM'
      rw [hr.out] at hr'
      clear CM g14 g4 b0 hI' hM'
      go_wp2
      go_roundw
      case rel => exact ⟨j + 1, rk x', x', by go_num, by omega, rfl, HI2.out, HM2.out⟩
      case measure => simp [intOf]; omega
structure Nxk (c : Nat) (x x' : Wk) : Prop where
  now : x'.wd.now = x.wd.now + 1
  nd : x'.wd.ds.length = x.wd.ds.length
  bs : ∀ j, j ≠ c → x'.wd.bs[j]? = x.wd.bs[j]?
structure Mck (Inv : Wk → Prop) (rk : Nat → Wk → Nat) (gw : Nat) (w0 : World) (B : Nat) : Prop where
  pg : ∀ x, Inv x → x.wd.gw = gw
  bs : ∀ x c, Inv x → c < 64 → x.wd.bs[c]? = some (-1) ∨ (∃ i : Nat, x.wd.bs[c]? = some (i : Int)) ∧ 0 < rk c x ∧ rk c x ≤ 1000
  now : ∀ x, Inv x → 0 ≤ x.wd.now
  mv : ∀ x (c i : Nat) W (fr : List As), c < 64 → Inv x → x.wd.now ≤ 90000000 → x.wd.bs[c]? = some (i : Int) → M w0 B W (x.as ++ fr) → Calls Tryd.prog 56 #[.pointer (some ⟨gw, 0, none⟩), .int .i64 c] W fun e w' => (∃ u, e = .returned u) ∧ ∃ x', Inv x' ∧ Nxk c x x' ∧ (x'.wd.bs[c]? = some (-1) ∨ rk c x' < rk c x) ∧ M w0 B w' (x'.as ++ fr)
  bg : ∀ x (c : Nat) (k key v : Int) W (fr : List As), c < 64 → Inv x → x.wd.ds.length ≤ 90000000 → opR k key v = true → x.wd.bs[c]? = some (-1) → M w0 B W (x.as ++ fr) → Calls Tryd.prog 55 #[.pointer (some ⟨gw, 0, none⟩), .int .i64 c, .agg #[.int .i64 k, .int .i64 key, .int .i64 v]] W fun e w' => (∃ u, e = .returned u) ∧ ∃ x', Inv x' ∧ x'.wd.now = x.wd.now ∧ x'.wd.ds.length = x.wd.ds.length + 1 ∧ (∀ j, j ≠ c → x'.wd.bs[j]? = x.wd.bs[j]?) ∧ M w0 B w' (x'.as ++ fr)
theorem Mck.alone {Inv : Wk → Prop} {rk : Nat → Wk → Nat} {gw : Nat} {w0 : World} {B : Nat} (m : Mck Inv rk gw w0 B) (c : Nat) (x0 : Wk) (w : World) (fr : List As) (hc : c < 64) (hI : Inv x0) (hn : x0.wd.now ≤ 89000000) (h : M w0 B w (x0.as ++ fr)) :
    Calls Tryd.prog 37 #[.pointer (some ⟨gw, 0, none⟩), .int .i64 c] w fun e w' => (∃ u, e = .returned u) ∧ ∃ x', Inv x' ∧ x'.wd.bs[c]? = some (-1) ∧ x'.wd.now ≤ x0.wd.now + 1000 ∧ x'.wd.ds.length = x0.wd.ds.length ∧ (∀ j, j ≠ c → x'.wd.bs[j]? = x0.wd.bs[j]?) ∧ M w0 B w' (x'.as ++ fr) := by
  let rk2 : Wk → Nat := fun x => if x.wd.bs[c]? = some (-1) then 0 else rk c x
  let I2 : Wk → Prop := fun x => Inv x ∧ x.wd.now + (rk2 x : Int) ≤ x0.wd.now + (rk2 x0 : Int) ∧ x.wd.ds.length = x0.wd.ds.length ∧ (∀ j, j ≠ c → x.wd.bs[j]? = x0.wd.bs[j]?)
  have hr0 : rk2 x0 ≤ 1000 := by
    show (if x0.wd.bs[c]? = some (-1) then 0 else rk c x0) ≤ 1000
    rcases m.bs x0 c hI hc with h1 | ⟨-, -, h3⟩
    · rw [if_pos h1]; omega
    · split <;> omega
  refine (alone_genk c gw I2 rk2 fr w0 w B x0 hc (fun x hx => m.pg x hx.1) (fun x hx => ?_) (fun x i W hx hb hM => ?_) ⟨hI, Int.le_refl _, rfl, fun _ _ => rfl⟩ hr0 h).mono ?_
  · rcases m.bs x c hx.1 hc with h1 | ⟨⟨i, h2⟩, h3, -⟩
    · exact Or.inl h1
    · refine Or.inr ⟨⟨i, h2⟩, ?_⟩
      show 0 < (if x.wd.bs[c]? = some (-1) then 0 else rk c x)
      rw [h2, if_neg (by intro e; have := Option.some.inj e; omega)]
      exact h3
  · have hb2 : rk2 x = rk c x := by
      show (if x.wd.bs[c]? = some (-1) then 0 else rk c x) = rk c x
      rw [hb, if_neg (by intro e; have := Option.some.inj e; omega)]
    have hnow := m.now x0 hI
    have hpos : 0 < rk c x := by
      rcases m.bs x c hx.1 hc with h1 | ⟨-, h3, -⟩
      · rw [hb] at h1; have := Option.some.inj h1; omega
      · exact h3
    refine (m.mv x c i W fr hc hx.1 (by have := hx.2.1; omega) hb hM).mono ?_
    rintro e w' ⟨he, x', hI', hN, hR, hM'⟩
    have hlt : rk2 x' < rk2 x := by
      rw [hb2]
      show (if x'.wd.bs[c]? = some (-1) then 0 else rk c x') < rk c x
      rcases hR with h1 | h1
      · rw [if_pos h1]; exact hpos
      · split <;> omega
    refine ⟨he, x', ⟨hI', ?_, hN.nd.trans hx.2.2.1, fun j hj => (hN.bs j hj).trans (hx.2.2.2 j hj)⟩, hlt, hM'⟩
    have := hx.2.1
    have := hN.now
    omega
  · rintro e w' ⟨he, x', hI', hb', hM'⟩
    refine ⟨he, x', hI'.1, hb', ?_, hI'.2.2.1, hI'.2.2.2, hM'⟩
    have := hI'.2.1
    omega
set_option maxRecDepth 100000 in
set_option maxHeartbeats 6400000 in
theorem Mck.settle {Inv : Wk → Prop} {rk : Nat → Wk → Nat} {gw : Nat} {w0 : World} {B : Nat} (m : Mck Inv rk gw w0 B) (x0 : Wk) (w : World) (fr : List As) (hI : Inv x0) (hn : x0.wd.now ≤ 80000000) (h : M w0 B w (x0.as ++ fr)) :
    Calls Tryd.prog 30 #[.pointer (some ⟨gw, 0, none⟩)] w fun e w' => (∃ u, e = .returned u) ∧ ∃ x', Inv x' ∧ (∀ c, c < 64 → x'.wd.bs[c]? = some (-1)) ∧ x'.wd.now ≤ x0.wd.now + 64000 ∧ x'.wd.ds.length = x0.wd.ds.length ∧ M w0 B w' (x'.as ++ fr) := by
  have HM := hideIt h
  have HI := hideIt hI
  have HMC := hideIt m
  clear h hI m
  go_enter Tryd.func30, Tryd.ntmps30
  go_wp2
  go_loopw [2] (fun y wr => ∃ (c : Nat) (x : Wk), y = .int .i64 c ∧ c ≤ 64 ∧ Hid (∀ j, j < c → x.wd.bs[j]? = some (-1)) ∧ Hid (x.wd.now ≤ x0.wd.now + 1000 * (c : Int)) ∧ Hid (x.wd.ds.length = x0.wd.ds.length) ∧ Hid (Inv x) ∧ Hid (M w0 B wr (x.as ++ fr))) (fun i _ => 64 - (intOf i).toNat)
  case atStart => exact ⟨0, x0, rfl, by omega, fun j hj => by omega, by unfold Hid; omega, rfl, HI.out, HM.out⟩
  case round =>
    clear HM HI
    obtain ⟨c, x, rfl, hc, hr, hnw, hnd, hI, hM⟩ := hrel
    have hg := HMC.out.pg x hI.out
    subst hg
    have g14 := hM.out.k14
    by_cases hlt : c < 64
    · have hc1 : (c : Int) < 64 := by omega
      have CM := hideIt (HMC.out.alone c x wr fr hlt hI.out (by have := hnw.out; omega) hM.out)
      clear hM hI
      go_wp2_with fail
      refine CM.out.mono ?_
      rintro e w1 ⟨⟨u, rfl⟩, x', hI', hb', hn', hd', hk', hM'⟩
      have HI2 := hideIt hI'
      have HM2 := hideIt hM'
      have HB : Hid (∀ j, j < c + 1 → x'.wd.bs[j]? = some (-1)) := fun j hj => by
        rcases Nat.lt_or_ge j c with h | h
        · rw [hk' j (by omega)]; exact hr.out j h
        · obtain rfl : j = c := by omega
          exact hb'
      have HN : Hid (x'.wd.now ≤ x0.wd.now + 1000 * ((c + 1 : Nat) : Int)) := by unfold Hid; have := hnw.out; omega
      have HD : Hid (x'.wd.ds.length = x0.wd.ds.length) := hd'.trans hnd.out
      clear CM g14 hI' hM' hb' hk' hn' hd'
      go_wp2
      go_roundw
      case rel => exact ⟨c + 1, x', by go_num, by omega, HB.out, HN.out, HD.out, HI2.out, HM2.out⟩
      case measure => simp [intOf]; omega
    · obtain rfl : c = 64 := by omega
      rw [show ((64 : Nat) : Int) = 64 from rfl]
      have HM := hideIt hM.out
      clear hM
      go_wp2
      exact bodyPost_end (results_none Tryd.results30 _ _ _) rfl ⟨⟨_, rfl⟩, x, hI.out, hr.out, by have := hnw.out; omega, hnd.out, HM.out⟩
set_option maxRecDepth 100000 in
set_option maxHeartbeats 6400000 in
theorem Mck.turn {Inv : Wk → Prop} {rk : Nat → Wk → Nat} {gw : Nat} {w0 : World} {B : Nat} (m : Mck Inv rk gw w0 B) (x0 : Wk) (cl k key v mv : Int) (w : World) (fr : List As) (hcl : I64 cl) (hk : I64 k) (hkey : I64 key) (hv : I64 v) (hmv : I64 mv) (hI : Inv x0) (hn : x0.wd.now ≤ 80000000) (hd : x0.wd.ds.length ≤ 80000000) (h : M w0 B w (x0.as ++ fr)) :
    Calls Tryd.prog 29 #[.pointer (some ⟨gw, 0, none⟩), .agg #[.int .i64 cl, .int .i64 k, .int .i64 key, .int .i64 v, .int .i64 mv]] w fun e w' => (∃ u, e = .returned u) ∧ ∃ x', Inv x' ∧ x'.wd.now ≤ x0.wd.now + 40 ∧ x'.wd.ds.length ≤ x0.wd.ds.length + 1 ∧ M w0 B w' (x'.as ++ fr) := by
  have A0 := hideIt (h.alloc #[.int .i64 cl, .int .i64 k, .int .i64 key, .int .i64 v, .int .i64 mv] 61)
  obtain ⟨hc0, hc1⟩ := pickV_bd cl 64 (by omega)
  obtain ⟨hm0, hm1⟩ := pickV_bd mv 40 (by omega)
  have P1 := hideIt (fun W => pick_ok cl 64 W ⟨hcl, by omega, by omega⟩)
  have P2 := hideIt (fun W => pick_ok mv 40 W ⟨hmv, by omega, by omega⟩)
  have P3 := hideIt (fun W => right_make k key v W hk hkey hv)
  have P4 := hideIt (right_right k key v)
  obtain ⟨c, hcc⟩ : ∃ c : Nat, pickV cl 64 = (c : Int) := ⟨(pickV cl 64).toNat, by omega⟩
  obtain ⟨n, hnn⟩ : ∃ n : Nat, pickV mv 40 = (n : Int) := ⟨(pickV mv 40).toNat, by omega⟩
  rw [hcc] at P1 hc0 hc1
  rw [hnn] at P2 hm0 hm1
  have HMC := hideIt m
  have HI := hideIt hI
  have HN := hideIt hn
  have HD := hideIt hd
  obtain ⟨gt, hgt⟩ : ∃ g, w.heap.size = g := ⟨_, rfl⟩
  have hg := m.pg x0 hI
  have hbs := m.bs x0 c hI (by omega)
  subst hg
  clear h hcl hk hkey hv hmv hI hn hd m hcc hnn
  go_enter Tryd.func29, Tryd.ntmps29
  rw [hgt] at A0
  obtain ⟨FB, hFB⟩ : ∃ F, F = (As.blk gt #[.int .i64 cl, .int .i64 k, .int .i64 key, .int .i64 v, .int .i64 mv] 61 :: fr) := ⟨_, rfl⟩
  have HFB := hideIt hFB
  have HIN : Hid (∀ x : Wk, As.blk gt #[.int .i64 cl, .int .i64 k, .int .i64 key, .int .i64 v, .int .i64 mv] 61 ∈ x.as ++ FB) := fun x => by rw [HFB.out]; simp
  have A1 := hideIt (A0.out.perm (List.perm_middle (l₁ := x0.as)))
  rw [← hFB] at A1
  clear hFB A0
  go_wp2_with fail
  refine (P1.out _).mono ?_
  rintro e w1 ⟨rfl, rfl⟩
  generalize hW1 : w.alloc _ = w1 at A1 ⊢
  clear hW1 hgt
  have g4 := A1.out.k4
  rcases hbs with hb | ⟨⟨i, hb⟩, -, -⟩
  · have b0 := A1.out.kb c _ hb
    have p1 := A1.out.cellIn (HIN.out x0) 1 (.int .i64 k) rfl
    have p2 := A1.out.cellIn (HIN.out x0) 2 (.int .i64 key) rfl
    have p3 := A1.out.cellIn (HIN.out x0) 3 (.int .i64 v) rfl
    have HB := hideIt hb
    clear hb
    go_wp2_with fail
    refine (P3.out _).mono ?_
    rintro e w2 ⟨rfl, hb⟩
    have A2 := hideIt (A1.out.below hb)
    clear hb A1 g4 b0 p1 p2 p3
    go_wp2_with fail
    refine (HMC.out.bg x0 c _ _ _ w2 FB (by omega) HI.out (by have := HD.out; omega) P4.out HB.out A2.out).mono ?_
    rintro e w3 ⟨⟨u, rfl⟩, x1, hI1, hn1, hd1, -, hM1⟩
    have HI1 := hideIt hI1
    have HN1 : Hid (x1.wd.now ≤ x0.wd.now) := by unfold Hid; omega
    have HD1 : Hid (x1.wd.ds.length ≤ x0.wd.ds.length + 1) := by unfold Hid; omega
    have A3 := hideIt hM1
    clear hI1 hn1 hd1 hM1 A2 HB
    have p4 := A3.out.cellIn (HIN.out x1) 4 (.int .i64 mv) rfl
    go_wp2_with fail
    refine (P2.out _).mono ?_
    rintro e w9 ⟨rfl, rfl⟩
    clear p4
    go_wp2
    go_loopw [6] (fun y wr => ∃ (j : Nat) (x : Wk), y = .int .i64 j ∧ j ≤ n + 1 ∧ Hid (x.wd.now ≤ x0.wd.now + (j : Int)) ∧ Hid (x.wd.ds.length ≤ x0.wd.ds.length + 1) ∧ Hid (Inv x) ∧ Hid (M w0 B wr (x.as ++ FB))) (fun i _ => (n + 1) - (intOf i).toNat)
    case atStart => exact ⟨0, x1, rfl, by omega, by unfold Hid; have := HN1.out; omega, HD1.out, HI1.out, A3.out⟩
    case round =>
      clear A3 HI1 HN1 HD1
      obtain ⟨j, x, rfl, hj, hnw, hnd, hI, hM⟩ := hrel
      have hg : Hid (x.wd.gw = x0.wd.gw) := HMC.out.pg x hI.out
      have g14 := hM.out.k14
      have g4 := hM.out.k4
      rw [hg.out] at g14 g4
      by_cases hlt : j < n + 1
      · have hj1 : (j : Int) < 1 + (n : Int) := by omega
        rcases HMC.out.bs x c hI.out (by omega) with hb | ⟨⟨i, hb⟩, -, -⟩
        · have b0 := hM.out.kb c _ hb
          clear hb
          go_wp2
          exact bodyPost_end (results_none Tryd.results29 _ _ _) rfl ⟨⟨_, rfl⟩, x, hI.out, by have := hnw.out; omega, hnd.out, by have h9 := hM.out; rw [HFB.out] at h9; exact (h9.perm (List.perm_middle (l₁ := x.as)).symm).sub (List.sublist_cons_self _ _)⟩
        · have b0 := hM.out.kb c _ hb
          have hi0 : (0 : Int) ≤ (i : Int) := by omega
          have CM := hideIt (HMC.out.mv x c i wr FB (by omega) hI.out (by have := hnw.out; have := HN.out; omega) hb hM.out)
          clear hM hb hI
          go_wp2_with fail
          refine CM.out.mono ?_
          rintro e w4 ⟨⟨u, rfl⟩, x', hI', hN', -, hM'⟩
          have HI2 := hideIt hI'
          have HM2 := hideIt hM'
          have HN2 : Hid (x'.wd.now ≤ x0.wd.now + ((j + 1 : Nat) : Int)) := by unfold Hid; have := hnw.out; have := hN'.now; omega
          have HD2 : Hid (x'.wd.ds.length ≤ x0.wd.ds.length + 1) := by unfold Hid; rw [hN'.nd]; exact hnd.out
          clear CM g14 g4 b0 hI' hM' hN' hg
          go_wp2
          go_roundw
          case rel => exact ⟨j + 1, x', by go_num, by omega, HN2.out, HD2.out, HI2.out, HM2.out⟩
          case measure => simp [intOf]; omega
      · have hj1 : ¬ ((j : Int) < 1 + (n : Int)) := by omega
        have hjn : (1 : Int) + (n : Int) ≤ (j : Int) := by omega
        go_wp2
        exact bodyPost_end (results_none Tryd.results29 _ _ _) rfl ⟨⟨_, rfl⟩, x, hI.out, by have := hnw.out; omega, hnd.out, by have h9 := hM.out; rw [HFB.out] at h9; exact (h9.perm (List.perm_middle (l₁ := x.as)).symm).sub (List.sublist_cons_self _ _)⟩
  · have b0 := A1.out.kb c _ hb
    have hi0 : (0 : Int) ≤ (i : Int) := by omega
    obtain ⟨x1, hx1⟩ : ∃ x1, x1 = x0 := ⟨_, rfl⟩
    have HI1 : Hid (Inv x1) := by rw [hx1]; exact HI.out
    have HN1 : Hid (x1.wd.now ≤ x0.wd.now) := by unfold Hid; rw [hx1]; omega
    have HD1 : Hid (x1.wd.ds.length ≤ x0.wd.ds.length + 1) := by unfold Hid; rw [hx1]; omega
    have A3 : Hid (M w0 B w1 (x1.as ++ FB)) := by rw [hx1]; exact A1.out
    clear hb A1 hx1
    have p4 := A3.out.cellIn (HIN.out x1) 4 (.int .i64 mv) rfl
    go_wp2_with fail
    refine (P2.out _).mono ?_
    rintro e w9 ⟨rfl, rfl⟩
    clear p4
    go_wp2
    go_loopw [6] (fun y wr => ∃ (j : Nat) (x : Wk), y = .int .i64 j ∧ j ≤ n + 1 ∧ Hid (x.wd.now ≤ x0.wd.now + (j : Int)) ∧ Hid (x.wd.ds.length ≤ x0.wd.ds.length + 1) ∧ Hid (Inv x) ∧ Hid (M w0 B wr (x.as ++ FB))) (fun i _ => (n + 1) - (intOf i).toNat)
    case atStart => exact ⟨0, x1, rfl, by omega, by unfold Hid; have := HN1.out; omega, HD1.out, HI1.out, A3.out⟩
    case round =>
      clear A3 HI1 HN1 HD1
      obtain ⟨j, x, rfl, hj, hnw, hnd, hI, hM⟩ := hrel
      have hg : Hid (x.wd.gw = x0.wd.gw) := HMC.out.pg x hI.out
      have g14 := hM.out.k14
      have g4 := hM.out.k4
      rw [hg.out] at g14 g4
      by_cases hlt : j < n + 1
      · have hj1 : (j : Int) < 1 + (n : Int) := by omega
        rcases HMC.out.bs x c hI.out (by omega) with hb | ⟨⟨i, hb⟩, -, -⟩
        · have b0 := hM.out.kb c _ hb
          clear hb
          go_wp2
          exact bodyPost_end (results_none Tryd.results29 _ _ _) rfl ⟨⟨_, rfl⟩, x, hI.out, by have := hnw.out; omega, hnd.out, by have h9 := hM.out; rw [HFB.out] at h9; exact (h9.perm (List.perm_middle (l₁ := x.as)).symm).sub (List.sublist_cons_self _ _)⟩
        · have b0 := hM.out.kb c _ hb
          have hi0 : (0 : Int) ≤ (i : Int) := by omega
          have CM := hideIt (HMC.out.mv x c i wr FB (by omega) hI.out (by have := hnw.out; have := HN.out; omega) hb hM.out)
          clear hM hb hI
          go_wp2_with fail
          refine CM.out.mono ?_
          rintro e w4 ⟨⟨u, rfl⟩, x', hI', hN', -, hM'⟩
          have HI2 := hideIt hI'
          have HM2 := hideIt hM'
          have HN2 : Hid (x'.wd.now ≤ x0.wd.now + ((j + 1 : Nat) : Int)) := by unfold Hid; have := hnw.out; have := hN'.now; omega
          have HD2 : Hid (x'.wd.ds.length ≤ x0.wd.ds.length + 1) := by unfold Hid; rw [hN'.nd]; exact hnd.out
          clear CM g14 g4 b0 hI' hM' hN' hg
          go_wp2
          go_roundw
          case rel => exact ⟨j + 1, x', by go_num, by omega, HN2.out, HD2.out, HI2.out, HM2.out⟩
          case measure => simp [intOf]; omega
      · have hj1 : ¬ ((j : Int) < 1 + (n : Int)) := by omega
        have hjn : (1 : Int) + (n : Int) ≤ (j : Int) := by omega
        go_wp2
        exact bodyPost_end (results_none Tryd.results29 _ _ _) rfl ⟨⟨_, rfl⟩, x, hI.out, by have := hnw.out; omega, hnd.out, by have h9 := hM.out; rw [HFB.out] at h9; exact (h9.perm (List.perm_middle (l₁ := x.as)).symm).sub (List.sublist_cons_self _ _)⟩
end Go.Proofs.YtajobgmnmbnhiaaDoor.Sap
