/- WHAT IS PROVED HERE: saplingkeep's single answers true of a Get, Put or Drop that has ended as it should, held against the map of its time. Conditions: all operations have ended; what is asked of its answer is named at the theorem (SinOk). -/
import Derived.Test.YtjpgldeeopmbgaaDoorP2
namespace Go.Proofs.YtjpgldeeopmbgaaDoor.Sap
open Go.RowKit

/-- The answer of a Get, Put or Drop that has ended is what a map answers that those ahead of it have made; or it was refused. -/
structure SinOk (x : Wd) (d : Dd) : Prop where
  ks : d.ks = []
  vs : d.vs = []
  cs : d.cs = []
  an : (d.er = 4 ∧ d.k = 2 ∧ d.fd = false ∧ d.va = 0) ∨ (d.er = 0 ∧ ∀ o', o'.Perm (tkL x.ds) → Srt o' → ∀ fd v, ValR (tabO (ahead o' (d.ts[d.pt.toNat]?.getD 0))).1 (tabO (ahead o' (d.ts[d.pt.toNat]?.getD 0))).2 d.key fd v → d.fd = fd ∧ d.va = v)

set_option maxRecDepth 100000 in
set_option maxHeartbeats 6400000 in
theorem single_any (x : Wd) (d : Dd) (o : List Dn) (i0 : Nat) (fr : List As) (w0 w : World) (B : Nat) (hd : x.ds[i0]? = some d) (hov : ∀ d ∈ x.ds, d.over) (hnd : x.ds.length ≤ 100000000) (hO : OrdI x o)
    (h : M w0 B w (x.as ++ (.row 119 4 x.ov o.length (dnc o) :: fr))) (hS : SinOk x d) :
    Calls Tryd.prog 38 #[.pointer (some ⟨x.gw, 0, none⟩), .pointer (some ⟨d.gd, 0, none⟩)] w fun e w' => e = .returned (.bool true) ∧ ∃ ov' o', OrdI { x with ov := ov' } o' ∧ M w0 B w' (({ x with ov := ov' } : Wd).as ++ (.row 119 4 ov' o'.length (dnc o') :: fr)) := by
  have D := M.deed (pre := []) h hd
  have d0 := D.cell (i := 0) rfl 0 (.int .i64 d.k) rfl
  have d8 := D.cell (i := 0) rfl 8 (.int .i64 d.er) rfl
  have d9 := D.cell (i := 0) rfl 9 (.bool d.fd) rfl
  have d10 := D.cell (i := 0) rfl 10 (.int .i64 d.va) rfl
  have d11 := D.cell (i := 0) rfl 11 (.int .i64 d.pt) rfl
  have d12 := D.cell (i := 0) rfl 12 d.kv rfl
  have d13 := D.cell (i := 0) rfl 13 d.vv rfl
  have d14 := D.cell (i := 0) rfl 14 d.cv rfl
  obtain ⟨ak, ck, hkv⟩ := As.form0 (D.get (i := 9) rfl)
  obtain ⟨av, cv, hvv⟩ := As.form0 (D.get (i := 10) rfl)
  obtain ⟨ac, cc, hcv⟩ := As.form0 (D.get (i := 11) rfl)
  rw [hkv, hS.ks, List.length_nil] at d12
  rw [hvv, hS.vs, List.length_nil] at d13
  rw [hcv, hS.cs, List.length_nil] at d14
  obtain ⟨-, p, hpt, hp, -⟩ := hov d (List.mem_of_getElem? hd)
  rw [hpt] at d11
  have hpn : d.pt.toNat = p := by omega
  have hdsz : d.gd < w.heap.size := lt_of_cell d8
  have P0 : PS x w.heap.size #[.int .i64 d.er, .bool d.fd, .int .i64 d.va, .int .i64 p, .slice ak 0 ck, .slice av 0 cv, .slice ac 0 cc] fr w0 B (w.alloc (.cells #[.int .i64 d.er, .bool d.fd, .int .i64 d.va, .int .i64 p, .slice ak 0 ck, .slice av 0 cv, .slice ac 0 cc] 66)) := by
    refine ⟨x.ov, o, hO, ?_⟩
    refine (h.alloc _ _).perm ?_
    refine (List.Perm.append_left _ (List.Perm.swap _ _ _)).trans ?_
    exact List.perm_middle
  have HP0 := hideIt P0
  have HOV := hideIt hov
  have HD := hideIt hd
  have hAN := hS.an
  rw [hpn] at hAN
  have HPP := hideIt hp
  obtain ⟨gd, hgd⟩ : ∃ y, d.gd = y := ⟨_, rfl⟩
  have HGD := hideIt hgd
  rw [hgd] at d0 d8 d9 d10 d11 d12 d13 d14 hdsz ⊢
  clear h hS P0 hov hd D hpn hp hpt hkv hvv hcv hgd hO
  rcases hAN with ⟨her, hk2, hfd, hva⟩ | ⟨her, hAN⟩
  · rw [her] at d8 HP0
    rw [hfd] at d9 HP0
    rw [hva] at d10 HP0
    rw [hk2] at d0
    go_enter Tryd.func38, Tryd.ntmps38
    go_wp2_with fail
    obtain ⟨⟨-, -, f4⟩, -, -, f7, -⟩ := HP0.out.facts HD.out
    rw [HGD.out] at f4
    refine (point_yes gd d.tm d.ts p _ f4 f7 HPP.out).mono ?_
    clear f4 f7
    rintro e w1 ⟨rfl, hb⟩
    have HP1 := hideIt (HP0.out.below hb)
    clear hb HP0 d8 d9 d10 d11 d12 d13 d14
    have a0 := HP1.out.ans 0 (.int .i64 4) rfl
    have a1 := HP1.out.ans 1 (.bool false) rfl
    have a2 := HP1.out.ans 2 (.int .i64 0) rfl
    have a4 := HP1.out.ans 4 (.slice ak 0 ck) rfl
    have a5 := HP1.out.ans 5 (.slice av 0 cv) rfl
    have a6 := HP1.out.ans 6 (.slice ac 0 cc) rfl
    generalize w.heap.size = ga at HP1 a0 a1 a2 a4 a5 a6 ⊢
    have d0 : w1.cell? ⟨gd, 0, none⟩ = some (.int .i64 2) := by
      obtain ⟨ov', o', -, h2⟩ := HP1.out
      have D := M.deed (pre := []) (x := { x with ov := ov' }) h2 HD.out
      have := D.cell (i := 0) rfl 0 (.int .i64 d.k) rfl
      rw [HGD.out, hk2] at this
      exact this
    clear hk2 hfd hva her
    go_wp2
    go_ret
    refine ⟨rfl, ?_⟩
    obtain ⟨ov', o', h1, h2⟩ := HP1.out
    exact ⟨ov', o', h1, h2.sub (List.Sublist.append (List.Sublist.refl _) (List.Sublist.cons_cons _ (List.sublist_cons_self _ _)))⟩
  · rw [her] at d8 HP0
    go_enter Tryd.func38, Tryd.ntmps38
    go_wp2_with fail
    obtain ⟨⟨-, -, f4⟩, -, -, f7, -⟩ := HP0.out.facts HD.out
    rw [HGD.out] at f4
    refine (point_yes gd d.tm d.ts p _ f4 f7 HPP.out).mono ?_
    clear f4 f7
    rintro e w1 ⟨rfl, hb⟩
    have HP1 := hideIt (HP0.out.below hb)
    clear hb HP0 d8 d9 d10 d11 d12 d13 d14
    have a0 := HP1.out.ans 0 (.int .i64 0) rfl
    have a1 := HP1.out.ans 1 (.bool d.fd) rfl
    have a2 := HP1.out.ans 2 (.int .i64 d.va) rfl
    have a4 := HP1.out.ans 4 (.slice ak 0 ck) rfl
    have a5 := HP1.out.ans 5 (.slice av 0 cv) rfl
    have a6 := HP1.out.ans 6 (.slice ac 0 cc) rfl
    generalize w.heap.size = ga at HP1 a0 a1 a2 a4 a5 a6 ⊢
    have HAN := hideIt hAN
    clear her hAN d0
    go_wp2_with fail
    refine (HP1.out.at _ HOV.out hnd).mono ?_
    rintro e w2 ⟨gt, rfl, o', ho1, ho2, hP2, ⟨tk, tv, t0, t1, hK, hV⟩, hl1, hl2⟩
    have HP2 := hideIt hP2
    have HO' := hideIt (HAN.out o' ho1 ho2)
    have a1 := HP2.out.ans 1 (.bool d.fd) rfl
    have a2 := HP2.out.ans 2 (.int .i64 d.va) rfl
    obtain ⟨⟨f1, -, -⟩, -, -, -, -⟩ := HP2.out.facts HD.out
    rw [HGD.out] at f1
    have CV := hideIt (value_any gt tk tv _ _ d.key w2 t0 t1 hK hV (by omega) hl1)
    clear HP1 ho1 ho2 hP2 hK hV hl1 hl2 t0 t1 HAN a0 a4 a5 a6
    go_wp2_with fail
    refine CV.out.mono ?_
    rintro e w3 ⟨fd, v, rfl, hv, hb⟩
    obtain ⟨e1, e2⟩ := HO'.out fd v hv
    subst e1 e2
    have HP3 := hideIt (HP2.out.below hb)
    have a1 := HP3.out.ans 1 (.bool d.fd) rfl
    have a2 := HP3.out.ans 2 (.int .i64 d.va) rfl
    clear CV HP2 HO' hv hb f1
    go_wp2
    go_ret
    refine ⟨rfl, ?_⟩
    obtain ⟨ov', o', h1, h2⟩ := HP3.out
    exact ⟨ov', o', h1, h2.sub (List.Sublist.append (List.Sublist.refl _) (List.Sublist.cons_cons _ (List.sublist_cons_self _ _)))⟩
end Go.Proofs.YtjpgldeeopmbgaaDoor.Sap
