/- WHAT IS PROVED HERE: what tree.changed makes of a leaf for a Put or a Drop. Conditions: named at the theorem. -/
import Derived.Test.YtjpgldeeopmbgaaDoorV1
import Derived.Test.YtjpgldeeopmbgaaDoorQ1
namespace Go.Proofs.YtjpgldeeopmbgaaDoor.Sap
open Go.RowKit

/-- A leaf's keys and values behind a Put (kind 2) or a Drop. -/
def chK (n : Nd) (k key : Int) : List Int := tkK n.ks (key + 1) n.hi (tkK n.ks 0 key [] n.ks.length ++ (if k = 2 then [key] else [])) n.ks.length
def chV (n : Nd) (k key v : Int) : List Int := tkV n.ks n.vs (key + 1) n.hi (tkV n.ks n.vs 0 key [] n.ks.length ++ (if k = 2 then [v] else [])) n.ks.length

set_option maxRecDepth 100000 in
set_option maxHeartbeats 6400000 in
theorem changed_any (n : Nd) (k key v : Int) (ka va : Value) (fr : List As) (w0 w : World) (B : Nat) (hk : k = 2 ∨ k = 3) (hkey : 0 ≤ key) (hkey2 : key ≤ 9999)
    (h : M w0 B w fr) (hka : .row 3 1 ka n.ks.length (ints n.ks) ∈ fr) (hva : .row 3 1 va n.vs.length (ints n.vs) ∈ fr) (hn : n.ks.length = n.vs.length) (h6 : n.ks.length ≤ 6) (ht6 : (tkK n.ks 0 key [] n.ks.length).length ≤ 6) :
    Calls Tryd.prog 109 #[.agg #[.int .i64 n.lv, .int .i64 n.lk, .int .i64 n.hi, ka, va], .agg #[.int .i64 k, .int .i64 key, .int .i64 v]] w fun e w' => ∃ kv' vv' l, e = .returned (.agg #[.int .i64 n.lv, .int .i64 n.lk, .int .i64 n.hi, kv', vv']) ∧ (chK n k key).length = l ∧ (chV n k key v).length = l ∧ l ≤ 13 ∧
      M w0 B w' (.row 3 1 kv' l (ints (chK n k key)) :: .row 3 1 vv' l (ints (chV n k key v)) :: fr) := by
  obtain ⟨i0, hi0, hz0, hz1, hz2⟩ := info_parts infoInt
  obtain ⟨na, nc, rfl⟩ := As.form0 (h.holds _ hka)
  obtain ⟨nva, nvc, rfl⟩ := As.form0 (h.holds _ hva)
  have A0 := (((h.alloc #[.int .i64 n.lv, .int .i64 n.lk, .int .i64 n.hi, .slice na n.ks.length nc, .slice nva n.vs.length nvc] 24).alloc #[.int .i64 k, .int .i64 key, .int .i64 v] 37).alloc #[.int .i64 0, .int .i64 0, .int .i64 0, .slice none 0 0, .slice none 0 0] 24).alloc #[.int .i64 n.lv, .int .i64 n.lk, .int .i64 n.hi, .slice none 0 0, .slice none 0 0] 24
  rw [alloc_size, alloc_size, alloc_size] at A0
  have A1 := M.rowNil (e := 3) (z := 1) (M.rowNil (e := 3) (z := 1) A0)
  have CT := hideIt (takeOver_any _ 0 n n.lv n.lk n.hi 0 key [] [] (.slice none 0 0) (.slice none 0 0) (.slice na n.ks.length nc) (.slice nva n.vs.length nvc) _ w0 _ B rfl rfl (by omega) A1 (by simp [hka]) (by simp [hva]) hn h6)
  have HKA := hideIt hka
  have HVA := hideIt hva
  have HN := hideIt hn
  have c := fun j v hv => A0.cell (i := 3) rfl j v hv
  have n0 := c 0 (.int .i64 n.lv) rfl
  have n1 := c 1 (.int .i64 n.lk) rfl
  have n2 := c 2 (.int .i64 n.hi) rfl
  have n3 := c 3 (.slice na n.ks.length nc) rfl
  have n4 := c 4 (.slice nva n.vs.length nvc) rfl
  have o1 := A0.cell (i := 2) rfl 1 (.int .i64 key) rfl
  have HCH : Hid (chK n k key = tkK n.ks (key + 1) n.hi (tkK n.ks 0 key [] n.ks.length ++ (if k = 2 then [key] else [])) n.ks.length ∧ chV n k key v = tkV n.ks n.vs (key + 1) n.hi (tkV n.ks n.vs 0 key [] n.ks.length ++ (if k = 2 then [v] else [])) n.ks.length) := ⟨rfl, rfl⟩
  clear c h hka hva hn A0 A1
  go_enter Tryd.func109, Tryd.ntmps109
  go_wp2_with fail
  refine CT.out.mono ?_
  rintro e w1 ⟨⟨u, rfl⟩, kv1, vv1, l1, hl1, hl2, hl3, hM1⟩
  obtain ⟨g0, hg0⟩ : ∃ g, w.heap.size = g := ⟨_, rfl⟩
  rw [hg0] at hM1 ⊢
  have A2 := hideIt hM1
  rw [hl1] at ht6
  have HL := hideIt (And.intro hl1 hl2)
  clear CT n0 n1 n2 n3 n4 o1 hg0 hM1 hl1 hl2
  obtain ⟨ka1, kc1, rfl⟩ := As.form0 (A2.out.get (i := 1) rfl)
  obtain ⟨va1, vc1, rfl⟩ := As.form0 (A2.out.get (i := 2) rfl)
  rcases hk with rfl | rfl
  · have q3 := A2.out.cell (i := 0) rfl 3 (.slice ka1 l1 kc1) rfl
    have q4 := A2.out.cell (i := 0) rfl 4 (.slice va1 l1 vc1) rfl
    have f3 := A2.out.free (i := 0) rfl 3
    have f4 := A2.out.free (i := 0) rfl 4
    have hlg := A2.out.lt (i := 0) rfl
    have p0 := A2.out.cell (i := 4) rfl 0 (.int .i64 2) rfl
    have p1 := A2.out.cell (i := 4) rfl 1 (.int .i64 key) rfl
    go_upto_region 5 with (at_builtin; refine wpList_append_lies _ rfl _ _ 22 rfl B 3 i0 (.int .i64 0) 1 8 Tryd.underlying22 hi0 hz0 hz1 hz2 rfl (by decide) _ l1 (ints (tkK n.ks 0 key [] n.ks.length)) rfl (World.ownsRow.alloc (A2.out.get (i := 1) rfl) _) ⟨_, 0, none⟩ 1 1 [.int .i64 key] rfl rfl (news_one _ _ _) (by simp [Value.oneCell']) (by omega) (by unfold maxLen; omega) (by omega) (by have := A2.out.sz; simp at this ⊢; omega) _ rfl ?_; intro g1 cap1 w5 hown hgrow hat hlt1; rw [← ints_snoc] at hown; have hm := (A2.out.allocd _).lies (i := 1) rfl hown hgrow hat; clear q3 q4 f3 f4 hlg p0 p1 hown hgrow hat; have q3 := hm.cell (i := 0) rfl 3 (.slice ka1 l1 kc1) rfl; have f3 := hm.free (i := 0) rfl 3; have hlg := hm.lt (i := 0) rfl; have H1 := hideIt (hm.store (i := 0) (j := 3) rfl (.slice (some ⟨g1, 0, none⟩) (l1 + 1) cap1) rfl); clear hm A2)
    have q4 := H1.out.cell (i := 0) rfl 4 (.slice va1 l1 vc1) rfl
    have f4 := H1.out.free (i := 0) rfl 4
    have p2 := H1.out.cell (i := 4) rfl 2 (.int .i64 v) rfl
    go_upto_region 6 with (at_builtin; refine wpList_append_lies _ rfl _ _ 22 rfl B 3 i0 (.int .i64 0) 1 8 Tryd.underlying22 hi0 hz0 hz1 hz2 rfl (by decide) _ l1 (ints (tkV n.ks n.vs 0 key [] n.ks.length)) rfl (World.ownsRow.alloc (H1.out.get (i := 2) rfl) _) ⟨_, 0, none⟩ 1 1 [.int .i64 v] rfl rfl (by have := news_one (w5.setCell ⟨g0 + 1 + 1 + 1, 3, none⟩ (.slice (some ⟨g1, 0, none⟩) (l1 + 1) cap1)) (.int .i64 v) 3; simpa using this) (by simp [Value.oneCell']) (by omega) (by unfold maxLen; omega) (by omega) (by have := H1.out.sz; simp at this ⊢; omega) _ rfl ?_; intro g2 cap2 w7 hown hgrow hat hlt2; rw [← ints_snoc] at hown; have hm := (H1.out.allocd _).lies (i := 2) rfl hown hgrow hat; clear q3 q4 f3 f4 p2 hlg hown hgrow hat; have q4 := hm.cell (i := 0) rfl 4 (.slice va1 l1 vc1) rfl; have f4 := hm.free (i := 0) rfl 4; have hlg := hm.lt (i := 0) rfl; have A3 := hideIt (hm.store (i := 0) (j := 4) rfl (.slice (some ⟨g2, 0, none⟩) (l1 + 1) cap2) rfl); clear hm H1)
    have CT2 := hideIt (takeOver_any _ (l1 + 1) n n.lv n.lk n.hi (key + 1) n.hi (tkK n.ks 0 key [] n.ks.length ++ [key]) (tkV n.ks n.vs 0 key [] n.ks.length ++ [v]) (.slice (some ⟨g1, 0, none⟩) (l1 + 1) cap1) (.slice (some ⟨g2, 0, none⟩) (l1 + 1) cap2) (.slice na n.ks.length nc) (.slice nva n.vs.length nvc) _ w0 _ B (by rw [List.length_append, HL.out.1]; rfl) (by rw [List.length_append, HL.out.2]; rfl) (by omega) A3.out (by simp [HKA.out]) (by simp [HVA.out]) HN.out h6)
    have n0 := A3.out.cell (i := 5) rfl 0 (.int .i64 n.lv) rfl
    have n1 := A3.out.cell (i := 5) rfl 1 (.int .i64 n.lk) rfl
    have n2 := A3.out.cell (i := 5) rfl 2 (.int .i64 n.hi) rfl
    have n3 := A3.out.cell (i := 5) rfl 3 (.slice na n.ks.length nc) rfl
    have n4 := A3.out.cell (i := 5) rfl 4 (.slice nva n.vs.length nvc) rfl
    have o0 := A3.out.cell (i := 4) rfl 0 (.int .i64 2) rfl
    have o1 := A3.out.cell (i := 4) rfl 1 (.int .i64 key) rfl
    clear A3
    go_wp2_with fail
    refine CT2.out.mono ?_
    rintro e w6 ⟨⟨u, rfl⟩, kv2, vv2, l2, hm1, hm2, hm3, hM2⟩
    obtain ⟨ka2, kc2, rfl⟩ := As.form0 (hM2.get (i := 1) rfl)
    obtain ⟨va2, vc2, rfl⟩ := As.form0 (hM2.get (i := 2) rfl)
    have S5 := hideIt (hM2.store5 (i := 3) rfl (.int .i64 n.lv) (.int .i64 n.lk) (.int .i64 n.hi) (.slice ka2 l2 kc2) (.slice va2 l2 vc2))
    have a0 := hM2.cell (i := 0) rfl 0 (.int .i64 n.lv) rfl
    have a1 := hM2.cell (i := 0) rfl 1 (.int .i64 n.lk) rfl
    have a2 := hM2.cell (i := 0) rfl 2 (.int .i64 n.hi) rfl
    have a3 := hM2.cell (i := 0) rfl 3 (.slice ka2 l2 kc2) rfl
    have a4 := hM2.cell (i := 0) rfl 4 (.slice va2 l2 vc2) rfl
    have r0 := hM2.cell (i := 3) rfl 0 (.int .i64 0) rfl
    have r1 := hM2.cell (i := 3) rfl 1 (.int .i64 0) rfl
    have r2 := hM2.cell (i := 3) rfl 2 (.int .i64 0) rfl
    have r3 := hM2.cell (i := 3) rfl 3 (.slice none 0 0) rfl
    have r4 := hM2.cell (i := 3) rfl 4 (.slice none 0 0) rfl
    have f0 := hM2.free (i := 3) rfl 0
    have f1 := hM2.free (i := 3) rfl 1
    have f2 := hM2.free (i := 3) rfl 2
    have f3 := hM2.free (i := 3) rfl 3
    have f4 := hM2.free (i := 3) rfl 4
    have HCC : Hid (chK n 2 key = tkK n.ks (key + 1) n.hi (tkK n.ks 0 key [] n.ks.length ++ [key]) n.ks.length ∧ chV n 2 key v = tkV n.ks n.vs (key + 1) n.hi (tkV n.ks n.vs 0 key [] n.ks.length ++ [v]) n.ks.length) := HCH.out
    have HM := hideIt (And.intro hm1 hm2)
    clear CT2 hM2 n0 n1 n2 n3 n4 o0 o1 HCH hm1 hm2
    go_wp2
    refine bodyPost_ret (v := .agg #[.int .i64 n.lv, .int .i64 n.lk, .int .i64 n.hi, .slice ka2 l2 kc2, .slice va2 l2 vc2]) (by simp [results, Tryd.results109, go_sem, *]) rfl ⟨_, _, l2, rfl, by rw [HCC.out.1]; exact HM.out.1, by rw [HCC.out.2]; exact HM.out.2, by omega, ?_⟩
    rw [HCC.out.1, HCC.out.2]
    exact S5.out.sub (.cons _ (.cons_cons _ (.cons_cons _ (.cons _ (.cons _ (.cons _ (List.Sublist.refl _)))))))
  · have A3 := A2
    clear A2
    have CT2 := hideIt (takeOver_any _ (l1) n n.lv n.lk n.hi (key + 1) n.hi (tkK n.ks 0 key [] n.ks.length) (tkV n.ks n.vs 0 key [] n.ks.length) (.slice ka1 l1 kc1) (.slice va1 l1 vc1) (.slice na n.ks.length nc) (.slice nva n.vs.length nvc) _ w0 _ B HL.out.1 HL.out.2 (by omega) A3.out (by simp [HKA.out]) (by simp [HVA.out]) HN.out h6)
    have n0 := A3.out.cell (i := 5) rfl 0 (.int .i64 n.lv) rfl
    have n1 := A3.out.cell (i := 5) rfl 1 (.int .i64 n.lk) rfl
    have n2 := A3.out.cell (i := 5) rfl 2 (.int .i64 n.hi) rfl
    have n3 := A3.out.cell (i := 5) rfl 3 (.slice na n.ks.length nc) rfl
    have n4 := A3.out.cell (i := 5) rfl 4 (.slice nva n.vs.length nvc) rfl
    have o0 := A3.out.cell (i := 4) rfl 0 (.int .i64 3) rfl
    have o1 := A3.out.cell (i := 4) rfl 1 (.int .i64 key) rfl
    clear A3
    go_wp2_with fail
    refine CT2.out.mono ?_
    rintro e w6 ⟨⟨u, rfl⟩, kv2, vv2, l2, hm1, hm2, hm3, hM2⟩
    obtain ⟨ka2, kc2, rfl⟩ := As.form0 (hM2.get (i := 1) rfl)
    obtain ⟨va2, vc2, rfl⟩ := As.form0 (hM2.get (i := 2) rfl)
    have S5 := hideIt (hM2.store5 (i := 3) rfl (.int .i64 n.lv) (.int .i64 n.lk) (.int .i64 n.hi) (.slice ka2 l2 kc2) (.slice va2 l2 vc2))
    have a0 := hM2.cell (i := 0) rfl 0 (.int .i64 n.lv) rfl
    have a1 := hM2.cell (i := 0) rfl 1 (.int .i64 n.lk) rfl
    have a2 := hM2.cell (i := 0) rfl 2 (.int .i64 n.hi) rfl
    have a3 := hM2.cell (i := 0) rfl 3 (.slice ka2 l2 kc2) rfl
    have a4 := hM2.cell (i := 0) rfl 4 (.slice va2 l2 vc2) rfl
    have r0 := hM2.cell (i := 3) rfl 0 (.int .i64 0) rfl
    have r1 := hM2.cell (i := 3) rfl 1 (.int .i64 0) rfl
    have r2 := hM2.cell (i := 3) rfl 2 (.int .i64 0) rfl
    have r3 := hM2.cell (i := 3) rfl 3 (.slice none 0 0) rfl
    have r4 := hM2.cell (i := 3) rfl 4 (.slice none 0 0) rfl
    have f0 := hM2.free (i := 3) rfl 0
    have f1 := hM2.free (i := 3) rfl 1
    have f2 := hM2.free (i := 3) rfl 2
    have f3 := hM2.free (i := 3) rfl 3
    have f4 := hM2.free (i := 3) rfl 4
    have HCC : Hid (chK n 3 key = tkK n.ks (key + 1) n.hi (tkK n.ks 0 key [] n.ks.length) n.ks.length ∧ chV n 3 key v = tkV n.ks n.vs (key + 1) n.hi (tkV n.ks n.vs 0 key [] n.ks.length) n.ks.length) := by have h9 := HCH.out; rw [if_neg (by decide), if_neg (by decide), List.append_nil, List.append_nil] at h9; exact h9
    have HM := hideIt (And.intro hm1 hm2)
    clear CT2 hM2 n0 n1 n2 n3 n4 o0 o1 HCH hm1 hm2
    go_wp2
    refine bodyPost_ret (v := .agg #[.int .i64 n.lv, .int .i64 n.lk, .int .i64 n.hi, .slice ka2 l2 kc2, .slice va2 l2 vc2]) (by simp [results, Tryd.results109, go_sem, *]) rfl ⟨_, _, l2, rfl, by rw [HCC.out.1]; exact HM.out.1, by rw [HCC.out.2]; exact HM.out.2, by omega, ?_⟩
    rw [HCC.out.1, HCC.out.2]
    exact S5.out.sub (.cons _ (.cons_cons _ (.cons_cons _ (.cons _ (.cons _ (.cons _ (List.Sublist.refl _)))))))
end Go.Proofs.YtjpgldeeopmbgaaDoor.Sap
