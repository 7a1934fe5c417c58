/- WHAT IS PROVED HERE: what legal, act and learns do at each kind of access, as one step on the pages and on what an operation knows. Conditions: named at each theorem. -/
import Derived.Test.YtjpgldeeopmbgaaDoorXT2C1
import Derived.Test.YtjpgldeeopmbgaaDoorXS2B3
import Derived.Test.YtjpgldeeopmbgaaDoorXA4M2
namespace Go.Proofs.YtjpgldeeopmbgaaDoor.Sap
open Go.RowKit

theorem ints_get {L : List Int} {i : Nat} {x : Int} (h : L[i]? = some x) : (ints L)[i]? = some (.int .i64 x) := by simp [ints, h]
theorem strs_get {L : List ByteArray} {i : Nat} {x : ByteArray} (h : L[i]? = some x) : (strs L)[i]? = some (.string x) := by simp [strs, h]
theorem bools_get {L : List Bool} {i : Nat} {x : Bool} (h : L[i]? = some x) : (bools L)[i]? = some (.bool x) := by simp [bools, h]
theorem strs_setx (L : List ByteArray) (i : Nat) (x : ByteArray) : (strs L).set i (.string x) = strs (L.set i x) := by simp [strs, List.map_set]
theorem bools_setx (L : List Bool) (i : Nat) (x : Bool) : (bools L).set i (.bool x) = bools (L.set i x) := by simp [bools, List.map_set]

/-- One access, as the document has it: what is asked, what the pages were and are, what the operation knew and knows, what is replied. -/
structure AccR (kd ak ap av : Int) (at' : ByteArray) (T : List ByteArray) (U : List Bool) (V kns : List Int) (drf : Bool) (rv rp : Int) (rt : ByteArray) (rd : Bool) (T' : List ByteArray) (U' : List Bool) (V' kns' : List Int) (drf' : Bool) : Prop where
  is : (∃ p : Nat, ak = 1 ∧ ap = p ∧ p < 64 ∧ av = 0 ∧ at' = ⟨#[]⟩ ∧ U[p]? = some true ∧ T[p]? = some rt ∧ V[p]? = some rv ∧ rp = 0 ∧ rd = false ∧ T' = T ∧ U' = U ∧ V' = V ∧ kns' = kns.set p rv ∧ drf' = drf)
    ∨ (∃ p : Nat, ak = 2 ∧ ap = p ∧ p < 64 ∧ 0 ≤ av ∧ av ≤ 1000000000 ∧ (kd = 2 ∨ kd = 3) ∧ (∃ n, Unp at'.data.toList n) ∧ U[p]? = some true ∧ kns[p]? = some av ∧ rv = 0 ∧ rp = 0 ∧ rt = ⟨#[]⟩ ∧ U' = U ∧ drf' = drf ∧
        ((V[p]? = some av ∧ rd = true ∧ (∃ t0, T[p]? = some t0) ∧ T' = T.set p at' ∧ V' = V.set p (av + 1) ∧ kns' = kns.set p (av + 1)) ∨ (∃ cur, V[p]? = some cur ∧ cur ≠ av ∧ rd = false ∧ T' = T ∧ V' = V ∧ kns' = kns)))
    ∨ (ak = 3 ∧ ap = 0 ∧ av = 0 ∧ (kd = 2 ∨ kd = 3) ∧ (∃ n, Unp at'.data.toList n) ∧ (∃ b, U[0]? = some b) ∧ rv = 0 ∧ rt = ⟨#[]⟩ ∧ rd = false ∧
        ((∃ f : Nat, f < 64 ∧ U[f]? = some false ∧ (∀ k, k < f → U[k]? = some true) ∧ (∃ t0, T[f]? = some t0) ∧ (∃ v0, V[f]? = some v0) ∧ rp = f ∧ U' = U.set f true ∧ T' = T.set f at' ∧ V' = V.set f 0 ∧ kns' = kns.set f 0 ∧ drf' = drf) ∨ ((∀ k, k < 64 → U[k]? = some true) ∧ rp = -1 ∧ U' = U ∧ T' = T ∧ V' = V ∧ kns' = kns ∧ drf' = true)))

theorem size_of_unp {t : ByteArray} (h : ∃ n, Unp t.data.toList n) : t.size ≤ 47 := by
  obtain ⟨n, hn⟩ := h
  have := (len_packT n hn.1).2
  rw [hn.2, ba_size] at this
  exact this

/-- Nothing is asked but what may be. -/
theorem acc_legal {gd kg kc gw tg tc ug uc vg vc dg dc bg bc nd : Nat} {k key v : Int} {f : ByteArray} {tm : Value} {nt : Nat} {drf : Bool} {kns ts : List Int} {now puts : Int} {rf wt kp : Bool} {cv ov : Value} {bs : List Int} {ds : List Value} {T : List ByteArray} {U : List Bool} {V : List Int} {fr : List As} {w0 W : World} {B ga : Nat}
    {ak ap av rv rp : Int} {at' rt : ByteArray} {rd : Bool} {T' : List ByteArray} {U' : List Bool} {V' kns' : List Int} {drf' : Bool} (hA : AccR k ak ap av at' T U V kns drf rv rp rt rd T' U' V' kns' drf')
    (h : M w0 B W (.blk ga #[.int .i64 ak, .int .i64 ap, .int .i64 av, .string at'] 45 :: LM gd kg kc gw tg tc ug uc vg vc dg dc bg bc nd k key v f tm nt drf kns ts now puts rf wt kp cv ov bs ds T U V fr)) :
    Calls Tryd.prog 89 #[.pointer (some ⟨gw, 0, none⟩), .pointer (some ⟨gd, 0, none⟩), .agg #[.int .i64 ak, .int .i64 ap, .int .i64 av, .string at']] W fun e w' => e = .returned (.bool true) ∧ Below W.heap.size W w' := by
  have c1 := h.cell (i := 4) rfl 1 (.slice (some ⟨ug, 0, none⟩) 64 uc) rfl
  have k0 := h.cell (i := 1) rfl 0 (.int .i64 k) rfl
  have k5 := h.cell (i := 1) rfl 5 (.slice (some ⟨kg, 0, none⟩) 64 kc) rfl
  rcases hA.is with ⟨p, rfl, rfl, hp, rfl, rfl, hU, -⟩ | ⟨p, rfl, rfl, hp, h0, -, hk, ht, hU, hkn, -⟩ | ⟨rfl, rfl, rfl, hk, ht, ⟨b, hU⟩, -⟩
  · exact legal_read gw ug uc p _ _ c1 (h.rowCell (i := 8) rfl p _ (bools_get hU)) hp
  · exact legal_swap gw ug uc gd kg kc p k av at' W c1 (h.rowCell (i := 8) rfl p _ (bools_get hU)) hp k0 k5 (h.rowCell (i := 2) rfl p _ (ints_get hkn)) hk h0 ht
  · exact legal_fresh gw ug uc gd 0 b k 0 at' W c1 (h.rowCell (i := 8) rfl 0 _ (bools_get hU)) (by omega) k0 hk ht

set_option maxHeartbeats 1600000 in
theorem acc_act {gd kg kc gw tg tc ug uc vg vc dg dc bg bc nd : Nat} {k key v : Int} {f : ByteArray} {tm : Value} {nt : Nat} {drf : Bool} {kns ts : List Int} {now puts : Int} {rf wt kp : Bool} {cv ov : Value} {bs : List Int} {ds : List Value} {T : List ByteArray} {U : List Bool} {V : List Int} {fr : List As} {w0 W : World} {B ga : Nat}
    {ak ap av rv rp : Int} {at' rt : ByteArray} {rd : Bool} {T' : List ByteArray} {U' : List Bool} {V' kns' : List Int} {drf' : Bool} (hA : AccR k ak ap av at' T U V kns drf rv rp rt rd T' U' V' kns' drf')
    (h : M w0 B W (.blk ga #[.int .i64 ak, .int .i64 ap, .int .i64 av, .string at'] 45 :: LM gd kg kc gw tg tc ug uc vg vc dg dc bg bc nd k key v f tm nt drf kns ts now puts rf wt kp cv ov bs ds T U V fr)) :
    Calls Tryd.prog 90 #[.pointer (some ⟨gw, 0, none⟩), .agg #[.int .i64 ak, .int .i64 ap, .int .i64 av, .string at']] W fun e w' => e = .returned (.agg #[.int .i64 rv, .int .i64 rp, .string rt, .bool rd]) ∧ M w0 B w' (.blk ga #[.int .i64 ak, .int .i64 ap, .int .i64 av, .string at'] 45 :: LM gd kg kc gw tg tc ug uc vg vc dg dc bg bc nd k key v f tm nt drf kns ts now puts rf wt kp cv ov bs ds T' U' V' fr) := by
  have c0 := h.cell (i := 4) rfl 0 (.slice (some ⟨tg, 0, none⟩) 64 tc) rfl
  have c1 := h.cell (i := 4) rfl 1 (.slice (some ⟨ug, 0, none⟩) 64 uc) rfl
  have c2 := h.cell (i := 4) rfl 2 (.slice (some ⟨vg, 0, none⟩) 64 vc) rfl
  rcases hA.is with ⟨p, rfl, rfl, hp, rfl, rfl, hU, hT, hV, rfl, rfl, rfl, rfl, rfl, -⟩ | ⟨p, rfl, rfl, hp, h0, h1, hk, ht, hU, hkn, rfl, rfl, rfl, rfl, -, hx⟩ | ⟨rfl, rfl, rfl, hk, ht, ⟨b, hU⟩, rfl, rfl, rfl, hx⟩
  · refine (act_read gw ug uc tg tc vg vc p rt rv W c1 (h.rowCell (i := 8) rfl p _ (bools_get hU)) hp c0 (h.rowCell (i := 7) rfl p _ (strs_get hT)) c2 (h.rowCell (i := 9) rfl p _ (ints_get hV))).mono ?_
    rintro e w' ⟨rfl, hb⟩
    exact ⟨rfl, h.below hb⟩
  · rcases hx with ⟨hV, rfl, ⟨t0, hT⟩, rfl, rfl, -⟩ | ⟨cur, hV, hne, rfl, rfl, rfl, -⟩
    · refine (act_swap gw ug uc tg tc vg vc p at' t0 av w0 W B 4 7 8 9 _ _ (strs T) (bools U') (ints V) h rfl rfl rfl rfl rfl rfl rfl (by omega) hp (strs_get hT) (bools_get hU) (ints_get hV) h0 h1 (size_of_unp ht)).mono ?_
      rintro e w' ⟨rfl, hM⟩
      refine ⟨rfl, ?_⟩
      unfold LM
      rw [← strs_setx, ← ints_setx]
      exact hM
    · refine (act_swap_no gw ug uc vg vc p at' av cur W c1 c2 hp (h.rowCell (i := 8) rfl p _ (bools_get hU)) (h.rowCell (i := 9) rfl p _ (ints_get hV)) hne (size_of_unp ht)).mono ?_
      rintro e w' ⟨rfl, hb⟩
      exact ⟨rfl, h.below hb⟩
  · rcases hx with ⟨f', hf, hUf, hUl, ⟨t0, hT⟩, ⟨v0, hV⟩, rfl, rfl, rfl, rfl, -⟩ | ⟨hall, rfl, rfl, rfl, rfl, -⟩
    · refine (act_fresh gw ug uc tg tc vg vc f' 0 b at' t0 0 v0 w0 W B 4 7 8 9 _ _ (strs T) (bools U) (ints V) h rfl rfl rfl rfl rfl rfl rfl (by omega) (by omega) (by omega) hf (by omega) (bools_get hU) (strs_get hT) (bools_get hUf) (fun k hk => bools_get (hUl k hk)) (ints_get hV) (size_of_unp ht)).mono ?_
      rintro e w' ⟨rfl, hM⟩
      refine ⟨rfl, ?_⟩
      unfold LM
      rw [← strs_setx, ← ints_setx, ← bools_setx]
      exact hM
    · refine (act_fresh_no gw ug uc 0 at' 0 W c1 (by omega) (fun k hk => h.rowCell (i := 8) rfl k _ (bools_get (hall k hk))) (size_of_unp ht)).mono ?_
      rintro e w' ⟨rfl, hb⟩
      exact ⟨rfl, h.below hb⟩

set_option maxHeartbeats 1600000 in
theorem acc_learns {gd kg kc gw tg tc ug uc vg vc dg dc bg bc nd : Nat} {k key v : Int} {f : ByteArray} {tm : Value} {nt : Nat} {drf : Bool} {kns ts : List Int} {now puts : Int} {rf wt kp : Bool} {cv ov : Value} {bs : List Int} {ds : List Value} {T : List ByteArray} {U : List Bool} {V : List Int} {fr : List As} {w0 W : World} {B ga gr : Nat}
    {ak ap av rv rp : Int} {at' rt : ByteArray} {rd : Bool} {T' : List ByteArray} {U' : List Bool} {V' kns' : List Int} {drf' : Bool} (hA : AccR k ak ap av at' T U V kns drf rv rp rt rd T' U' V' kns' drf')
    (h : M w0 B W (.blk gr #[.int .i64 rv, .int .i64 rp, .string rt, .bool rd] 86 :: .blk ga #[.int .i64 ak, .int .i64 ap, .int .i64 av, .string at'] 45 :: LM gd kg kc gw tg tc ug uc vg vc dg dc bg bc nd k key v f tm nt drf kns ts now puts rf wt kp cv ov bs ds T' U' V' fr)) :
    Calls Tryd.prog 91 #[.pointer (some ⟨gd, 0, none⟩), .agg #[.int .i64 ak, .int .i64 ap, .int .i64 av, .string at'], .agg #[.int .i64 rv, .int .i64 rp, .string rt, .bool rd]] W fun e w' => (∃ u, e = .returned u) ∧ M w0 B w' (.blk gr #[.int .i64 rv, .int .i64 rp, .string rt, .bool rd] 86 :: .blk ga #[.int .i64 ak, .int .i64 ap, .int .i64 av, .string at'] 45 :: LM gd kg kc gw tg tc ug uc vg vc dg dc bg bc nd k key v f tm nt drf' kns' ts now puts rf wt kp cv ov bs ds T' U' V' fr) := by
  rcases hA.is with ⟨p, rfl, rfl, hp, rfl, rfl, hU, hT, hV, rfl, rfl, rfl, rfl, rfl, rfl, rfl⟩ | ⟨p, rfl, rfl, hp, h0, h1, hk, ht, hU, hkn, rfl, rfl, rfl, rfl, rfl, hx⟩ | ⟨rfl, rfl, rfl, hk, ht, ⟨b, hU⟩, rfl, rfl, rfl, hx⟩
  · refine (learns_read gd kg kc p rt rv w0 W B 2 3 _ _ (ints kns) h rfl rfl rfl hp).mono ?_
    rintro e w' ⟨he, hM⟩
    refine ⟨he, ?_⟩
    unfold LM
    rw [← ints_setx kns]
    exact hM
  · rcases hx with ⟨hV, rfl, ⟨t0, hT⟩, rfl, rfl, rfl⟩ | ⟨cur, hV, hne, rfl, rfl, rfl, rfl⟩
    · refine (learns_swap gd kg kc p at' av w0 W B 2 3 _ _ (ints kns) h rfl rfl rfl hp h0 h1).mono ?_
      rintro e w' ⟨he, hM⟩
      refine ⟨he, ?_⟩
      unfold LM
      rw [← ints_setx kns]
      exact hM
    · refine (learns_swap_no gd p at' av W).mono ?_
      rintro e w' ⟨he, hb⟩
      exact ⟨he, h.below hb⟩
  · rcases hx with ⟨f', hf, hUf, hUl, ⟨t0, hT⟩, ⟨v0, hV⟩, rfl, rfl, rfl, rfl, rfl, rfl⟩ | ⟨hall, rfl, rfl, rfl, rfl, rfl, rfl⟩
    · refine (learns_fresh gd kg kc f' 0 0 at' w0 W B 2 3 _ _ (ints kns) h rfl rfl rfl hf).mono ?_
      rintro e w' ⟨he, hM⟩
      refine ⟨he, ?_⟩
      unfold LM
      rw [← ints_setx kns]
      exact hM
    · refine (learns_fresh_no gd 0 0 at' w0 W B 2 _ _ _ (.bool drf) h rfl rfl rfl).mono ?_
      rintro e w' ⟨he, hM⟩
      exact ⟨he, hM⟩
end Go.Proofs.YtjpgldeeopmbgaaDoor.Sap

/- WHAT IS PROVED HERE: saplingkeep's says and fitted: the node of a page. Conditions: the page unpacks, or it is free; named at each theorem. -/
namespace Go.Proofs.YtjpgldeeopmbgaaDoor.Sap
open Go.RowKit

/-- The pages, in memory. -/
def PgR (gw tg tc ug uc : Nat) (T : List ByteArray) (U : List Bool) (w : World) : Prop :=
  w.cell? ⟨gw, 0, none⟩ = some (.slice (some ⟨tg, 0, none⟩) 64 tc) ∧ w.cell? ⟨gw, 1, none⟩ = some (.slice (some ⟨ug, 0, none⟩) 64 uc) ∧ ∀ p, p < 64 → ∃ t b, T[p]? = some t ∧ U[p]? = some b ∧ w.cell? ⟨tg, p, none⟩ = some (.string t) ∧ w.cell? ⟨ug, p, none⟩ = some (.bool b)
theorem PgR.below {gw tg tc ug uc : Nat} {T : List ByteArray} {U : List Bool} {w w' : World} (h : PgR gw tg tc ug uc T U w) (hb : Below w.heap.size w w') : PgR gw tg tc ug uc T U w' := by
  obtain ⟨h1, h2, h3⟩ := h
  refine ⟨cell_below hb _ _ h1, cell_below hb _ _ h2, fun p hp => ?_⟩
  obtain ⟨t, b, a1, a2, a3, a4⟩ := h3 p hp
  exact ⟨t, b, a1, a2, cell_below hb _ _ a3, cell_below hb _ _ a4⟩
/-- Page p says node n. -/
def Says (T : List ByteArray) (U : List Bool) (p : Nat) (n : Nd) : Prop := p < 64 ∧ U[p]? = some true ∧ ∃ t, T[p]? = some t ∧ Unp t.data.toList n
theorem vals_len {n : Nd} (h : rightB n = true) : n.ks.length = n.vs.length := by
  simp only [rightB, Bool.and_eq_true, decide_eq_true_eq] at h
  omega

theorem M.store5 {w0 w : World} {B i b : Nat} {l : List As} {c0 c1 c2 c3 c4 : Value} {t : TypeId} (h : M w0 B w l) (hi : l[i]? = some (.blk b #[c0, c1, c2, c3, c4] t)) (a0 a1 a2 a3 a4 : Value) :
    M w0 B (((((w.setCell ⟨b, 0, none⟩ a0).setCell ⟨b, 1, none⟩ a1).setCell ⟨b, 2, none⟩ a2).setCell ⟨b, 3, none⟩ a3).setCell ⟨b, 4, none⟩ a4) (l.set i (.blk b #[a0, a1, a2, a3, a4] t)) := by
  have hl : i < l.length := (List.getElem?_eq_some_iff.1 hi).1
  have e : ∀ (a : As), (l.set i a)[i]? = some a := fun a => by rw [List.getElem?_set, if_pos rfl, if_pos hl]
  have s0 := h.store (j := 0) hi a0 (c' := #[a0, c1, c2, c3, c4]) rfl
  have s1 := s0.store (j := 1) (e _) a1 (c' := #[a0, a1, c2, c3, c4]) rfl
  rw [List.set_set] at s1
  have s2 := s1.store (j := 2) (e _) a2 (c' := #[a0, a1, a2, c3, c4]) rfl
  rw [List.set_set] at s2
  have s3 := s2.store (j := 3) (e _) a3 (c' := #[a0, a1, a2, a3, c4]) rfl
  rw [List.set_set] at s3
  have s4 := s3.store (j := 4) (e _) a4 (c' := #[a0, a1, a2, a3, a4]) rfl
  rw [List.set_set] at s4
  exact s4

theorem Own.m {w w' : World} {kv vv : Value} {ks vs : List Int} (h : Own w' w.heap.size kv vv ks vs) (hb : Below w.heap.size w w') : M w w.heap.size w' [.row 3 1 kv ks.length (ints ks), .row 3 1 vv vs.length (ints vs)] := by
  refine ⟨fun a ha => ?_, ?_, hb, hb.size⟩
  · rcases List.mem_cons.1 ha with rfl | ha
    · exact h.1
    · rcases List.mem_singleton.1 ha with rfl
      exact h.2.1
  · exact List.pairwise_cons.2 ⟨fun b hb2 k h1 h2 => by rcases List.mem_singleton.1 hb2 with rfl; exact h.2.2 k h1 h2, List.pairwise_singleton _ _⟩

set_option maxRecDepth 100000 in
set_option maxHeartbeats 3200000 in
theorem says_yes (gw tg tc ug uc p : Nat) (T : List ByteArray) (U : List Bool) (n : Nd) (w : World) (h : PgR gw tg tc ug uc T U w) (hs : Says T U p n) :
    Calls Tryd.prog 67 #[.pointer (some ⟨gw, 0, none⟩), .int .i64 p] w fun e w' => ∃ kv vv, e = .returned (.tuple #[.agg #[.int .i64 n.lv, .int .i64 n.lk, .int .i64 n.hi, kv, vv], .bool true]) ∧ M w w.heap.size w' [.row 3 1 kv n.ks.length (ints n.ks), .row 3 1 vv n.vs.length (ints n.vs)] := by
  obtain ⟨hp, hu, t, ht, hn⟩ := hs
  obtain ⟨c0, c1, c2⟩ := h
  obtain ⟨t', b, a1, a2, a3, a4⟩ := c2 p hp
  rw [ht] at a1; cases a1
  rw [hu] at a2; cases a2
  have A0 := hideIt ((M.start w).alloc #[.int .i64 0, .int .i64 0, .int .i64 0, .slice none 0 0, .slice none 0 0] 24)
  have k0 := cell_below A0.out.bl _ _ c0
  have k1 := hideIt (cell_below A0.out.bl _ _ c1)
  have k3 := cell_below A0.out.bl _ _ a3
  have k4 := hideIt (cell_below A0.out.bl _ _ a4)
  have hsz := size_of_unp ⟨n, hn⟩
  have hp1 : (0 : Int) ≤ (p : Int) := by omega
  have hp2 : (p : Int) < 64 := by omega
  have hle := vals_len hn.1
  have HN := hideIt hn
  clear c0 c1 c2 a3 a4 ht hu hn
  go_enter Tryd.func67, Tryd.ntmps67
  go_wp2_with fail
  refine (there_yes gw ug uc p _ k1.out k4.out hp).mono ?_
  rintro e w1 ⟨rfl, rfl⟩
  go_wp2_with fail
  refine (unpack_any t _ (by omega)).mono ?_
  rintro e w2 ⟨hR, hb⟩
  rcases hR with ⟨n', kv, vv, hn', hO, rfl⟩ | ⟨hno, -⟩
  case inr => exact absurd HN.out (hno n)
  obtain rfl : n' = n := hn'.uniq HN.out
  have A1 := A0.out.join (hO.m hb)
  obtain ⟨ka, kc, rfl⟩ := As.form0 (A1.get (i := 0) rfl)
  obtain ⟨va, vc, rfl⟩ := As.form0 (A1.get (i := 1) rfl)
  have A2 := hideIt (A1.alloc #[.int .i64 n'.lv, .int .i64 n'.lk, .int .i64 n'.hi, .slice ka n'.ks.length kc, .slice va n'.vs.length vc] 24)
  obtain ⟨g0, hg0⟩ : ∃ g, w.heap.size = g := ⟨_, rfl⟩
  have HG := hideIt hg0
  rw [hg0] at A1 A2 ⊢
  have r0 := A1.cell (i := 2) rfl 0 (.int .i64 0) rfl
  have r1 := A1.cell (i := 2) rfl 1 (.int .i64 0) rfl
  have r2 := A1.cell (i := 2) rfl 2 (.int .i64 0) rfl
  have r3 := A1.cell (i := 2) rfl 3 (.slice none 0 0) rfl
  have r4 := A1.cell (i := 2) rfl 4 (.slice none 0 0) rfl
  have f0 := A1.free (i := 2) rfl 0
  have f1 := A1.free (i := 2) rfl 1
  have f2 := A1.free (i := 2) rfl 2
  have f3 := A1.free (i := 2) rfl 3
  have f4 := A1.free (i := 2) rfl 4
  have hl := A1.lt (i := 2) rfl
  have S5 := hideIt ((A1.store5 (i := 2) rfl (.int .i64 n'.lv) (.int .i64 n'.lk) (.int .i64 n'.hi) (.slice ka n'.ks.length kc) (.slice va n'.vs.length vc)).sub (l' := [_, _]) (List.Sublist.cons_cons _ (List.Sublist.cons_cons _ (List.nil_sublist _))))
  have hlb : ((n'.ks.length : Int) == (n'.vs.length : Int)) = true := by simp [hle]
  have hlb2 : (n'.ks.length == n'.vs.length) = true := by simp [hle]
  clear A0 A1 hO hb hn' k0 k3 HN hle hg0
  go_wp2
  go_region
  all_goals
    go_wp2
    refine bodyPost_ret (v := .tuple #[.agg #[.int .i64 n'.lv, .int .i64 n'.lk, .int .i64 n'.hi, .slice ka n'.ks.length kc, .slice va n'.vs.length vc], .bool true]) (by simp [results, Tryd.results67, go_sem, *]) rfl ⟨_, _, rfl, ?_⟩
    rw [HG.out]
    exact (S5.out.allocd _).drew
end Go.Proofs.YtjpgldeeopmbgaaDoor.Sap

/- WHAT IS PROVED HERE: what saplingkeep's table does where an operation takes effect (do): a Put sets or adds, a Drop takes away. Conditions: the lists are as long as one another and short. -/
namespace Go.Proofs.YtjpgldeeopmbgaaDoor.Sap
open Go.RowKit

/-- What an operation does to a map that is kept as two lists. -/
def tdo (kd key v : Int) (K V : List Int) : List Int × List Int :=
  if key ∈ K then
    if kd = 2 then (K, V.set (K.idxOf key) v)
    else if kd = 3 then ((K.set (K.idxOf key) (K[K.length - 1]?.getD 0)).take (K.length - 1), (V.set (K.idxOf key) (V[K.length - 1]?.getD 0)).take (K.length - 1))
    else (K, V)
  else if kd = 2 then (K ++ [key], V ++ [v]) else (K, V)

theorem idx_of_first {K : List Int} {key : Int} : ∀ {i : Nat}, K[i]? = some key → (∀ j, j < i → K[j]?.getD 0 ≠ key) → K.idxOf key = i := by
  induction K with
  | nil => intro i h1 _; simp at h1
  | cons a K ih =>
    intro i h1 h2
    by_cases ha : a = key
    · subst ha
      cases i with
      | zero => simp
      | succ i => exact absurd rfl (h2 0 (by omega))
    · cases i with
      | zero => simp at h1; exact absurd h1 ha
      | succ i =>
        rw [List.idxOf_cons, show (a == key) = false by simp [ha]]
        show K.idxOf key + 1 = i + 1
        rw [ih (i := i) (by simpa using h1) (fun j hj => by have := h2 (j + 1) (by omega); simpa using this)]
theorem ints_set (L : List Int) (i : Nat) (x : Int) : (ints L).set i (.int .i64 x) = ints (L.set i x) := by simp [ints, List.map_set]

set_option maxRecDepth 100000 in
set_option maxHeartbeats 1600000 in
theorem do_set (gt n i : Nat) (kv vv : Value) (K V : List Int) (key v : Int) (fr : List As) (w0 w : World) (B : Nat) (hn : n ≤ 1000000000) (hK : K.length = n) (hV : V.length = n) (h1 : K[i]? = some key) (h2 : ∀ j, j < i → K[j]?.getD 0 ≠ key)
    (h : M w0 B w (.blk gt #[kv, vv] 84 :: .row 3 1 kv n (ints K) :: .row 3 1 vv n (ints V) :: fr)) :
    Calls Tryd.prog 69 #[.pointer (some ⟨gt, 0, none⟩), .agg #[.int .i64 2, .int .i64 key, .int .i64 v]] w fun e w' => (∃ u, e = .returned u) ∧
      M w0 B w' (.blk gt #[kv, vv] 84 :: .row 3 1 kv n (ints K) :: .row 3 1 vv n (ints (V.set i v)) :: fr) := by
  have hi : i < n := by rw [← hK]; exact (List.getElem?_eq_some_iff.1 h1).1
  obtain ⟨gv, cv, rfl⟩ := As.form (h.get (i := 2) rfl) (by omega)
  have hr : As.holds w B (.row 3 1 kv n (ints K)) := h.get (i := 1) rfl
  rw [← hK] at hr
  have HR := hideIt (owns_rd hr)
  have A0 := hideIt (h.alloc #[.int .i64 2, .int .i64 key, .int .i64 v] 37)
  have C := hideIt (find_any gt kv K key (w.alloc (.cells #[.int .i64 2, .int .i64 key, .int .i64 v] 37)) (A0.out.cell (i := 1) rfl 0 kv rfl) (owns_rd (As.holds.own (by have := A0.out.get (i := 2) rfl; rw [← hK] at this; exact this))) (by omega))
  have H1 := hideIt h1
  have H2 := hideIt h2
  have hi0 : (0 : Int) ≤ (i : Int) := by omega
  have hi1 : (i : Int) < (n : Int) := by omega
  clear h hr h1 h2 hK hV
  go_enter Tryd.func69, Tryd.ntmps69
  go_wp2_with fail
  refine C.out.mono ?_
  rintro e w' ⟨r, rfl, hF, rfl⟩
  have hr : r = (i : Int) := by
    rcases hF with ⟨-, hno⟩ | ⟨j, rfl, j1, j2⟩
    · exact absurd (List.mem_of_getElem? H1.out) hno
    · rw [← idx_of_first j1 j2, ← idx_of_first H1.out H2.out]
  subst hr
  clear C hF
  obtain ⟨go, hgo⟩ : ∃ g, w.heap.size = g := ⟨_, rfl⟩
  rw [hgo] at A0 ⊢
  have o0 := A0.out.cell (i := 0) rfl 0 (.int .i64 2) rfl
  have o1 := A0.out.cell (i := 0) rfl 1 (.int .i64 key) rfl
  have o2 := A0.out.cell (i := 0) rfl 2 (.int .i64 v) rfl
  have t1 := A0.out.cell (i := 1) rfl 1 (.slice (some ⟨gv, 0, none⟩) n cv) rfl
  have S := hideIt (A0.out.storeRow (i := 3) (j := i) rfl (.int .i64 v))
  have fz := World.ownsRow.frozenAt (A0.out.get (i := 3) rfl).own i
  have cz := A0.out.rowCell (i := 3) rfl i _ (ints_at' V i (by have := (A0.out.get (i := 3) rfl).own.1; simp [len_ints] at this; omega))
  clear hgo A0
  go_wp2
  go_region
  all_goals
    go_wp2
    refine bodyPost_end (results_none Tryd.results69 _ _ _) rfl ⟨⟨_, rfl⟩, ?_⟩
    rw [← ints_set]
    exact (S.out.sub (List.sublist_cons_self _ _)).drew
set_option maxRecDepth 100000 in
set_option maxHeartbeats 3200000 in
theorem do_add (gt n : Nat) (kv vv : Value) (K V : List Int) (key v : Int) (fr : List As) (w0 w : World) (B : Nat) (hn : n ≤ 1000000000) (hK : K.length = n) (hV : V.length = n) (h1 : key ∉ K)
    (h : M w0 B w (.blk gt #[kv, vv] 84 :: .row 3 1 kv n (ints K) :: .row 3 1 vv n (ints V) :: fr)) :
    Calls Tryd.prog 69 #[.pointer (some ⟨gt, 0, none⟩), .agg #[.int .i64 2, .int .i64 key, .int .i64 v]] w fun e w' => (∃ u, e = .returned u) ∧ ∃ kv' vv',
      M w0 B w' (.blk gt #[kv', vv'] 84 :: .row 3 1 kv' (n + 1) (ints (K ++ [key])) :: .row 3 1 vv' (n + 1) (ints (V ++ [v])) :: fr) := by
  obtain ⟨i0, hi0, hz0, hz1, hz2⟩ := info_parts infoInt
  obtain ⟨ka, ck, rfl⟩ := As.form0 (h.get (i := 1) rfl)
  obtain ⟨va, cv, rfl⟩ := As.form0 (h.get (i := 2) rfl)
  have A0 := hideIt (h.alloc #[.int .i64 2, .int .i64 key, .int .i64 v] 37)
  have C := hideIt (find_any gt (.slice ka n ck) K key (w.alloc (.cells #[.int .i64 2, .int .i64 key, .int .i64 v] 37)) (A0.out.cell (i := 1) rfl 0 (.slice ka n ck) rfl) (owns_rd (As.holds.own (by have := A0.out.get (i := 2) rfl; rw [← hK] at this ⊢; exact this))) (by omega))
  have H1 := hideIt h1
  clear h h1 hK hV
  go_enter Tryd.func69, Tryd.ntmps69
  go_wp2_with fail
  refine C.out.mono ?_
  rintro e w' ⟨r, rfl, hF, rfl⟩
  have hr : r = -1 := by
    rcases hF with ⟨e, -⟩ | ⟨j, rfl, j1, j2⟩
    · exact e
    · exact absurd (List.mem_of_getElem? j1) H1.out
  subst hr
  clear C hF
  obtain ⟨go, hgo⟩ : ∃ g, w.heap.size = g := ⟨_, rfl⟩
  rw [hgo] at A0 ⊢
  obtain ⟨w1, hw1⟩ : ∃ x, w.alloc (.cells #[.int .i64 2, .int .i64 key, .int .i64 v] 37) = x := ⟨_, rfl⟩
  rw [hw1] at A0 ⊢
  clear hw1
  have o0 := A0.out.cell (i := 0) rfl 0 (.int .i64 2) rfl
  have o1 := A0.out.cell (i := 0) rfl 1 (.int .i64 key) rfl
  have t0 := A0.out.cell (i := 1) rfl 0 (.slice ka n ck) rfl
  have f0 := A0.out.free (i := 1) rfl 0
  have hlt := A0.out.lt (i := 1) rfl
  clear hgo
  go_upto_region 5 with fail
  go_cut [] (fun wy => ∃ kv', Hid (M w0 B wy (.blk go #[.int .i64 2, .int .i64 key, .int .i64 v] 37 :: .blk gt #[kv', .slice va n cv] 84 :: .row 3 1 kv' (n + 1) (ints (K ++ [key])) :: .row 3 1 (.slice va n cv) n (ints V) :: fr)))
  case first =>
    go_region_law (refine step_append_lies _ rfl _ _ 22 rfl B 3 i0 (.int .i64 0) 1 8 Tryd.underlying22 hi0 hz0 hz1 hz2 rfl (by decide) _ n (ints K) rfl (World.ownsRow.alloc (A0.out.get (i := 2) rfl) _) ⟨_, 0, none⟩ 1 1 [.int .i64 key] rfl rfl (by have := news_one w1 (.int .i64 key) 3; simpa using this) (by simp [Value.oneCell']) (by omega) (by unfold maxLen; omega) (by omega) (by have := A0.out.sz; simp at this ⊢; omega) _ rfl ?_; intro g1 cap1 w5 hown hgrow hat hlt1; rw [← ints_snoc] at hown; have hm := (A0.out.allocd _).drew.lies (i := 2) rfl hown hgrow hat; clear o0 o1 t0 f0 hlt hown hgrow hat; have t0 := hm.cell (i := 1) rfl 0 (.slice ka n ck) rfl; have f0 := hm.free (i := 1) rfl 0; have hlt := hm.lt (i := 1) rfl; have H2 := hideIt (hm.store (i := 1) (j := 0) rfl (.slice (some ⟨g1, 0, none⟩) (n + 1) cap1) rfl); clear hm)
    all_goals
      go_wp2
      go_meet
      case rel => exact ⟨_, H2.out⟩
  case rest =>
    obtain ⟨kv', hM⟩ := hcut
    clear A0 o0 o1 t0 f0 hlt
    have o2 := hM.out.cell (i := 0) rfl 2 (.int .i64 v) rfl
    have t1 := hM.out.cell (i := 1) rfl 1 (.slice va n cv) rfl
    have f1 := hM.out.free (i := 1) rfl 1
    have hlt := hM.out.lt (i := 1) rfl
    go_upto_region 6 with fail
    go_region_law (refine step_append_lies _ rfl _ _ 22 rfl B 3 i0 (.int .i64 0) 1 8 Tryd.underlying22 hi0 hz0 hz1 hz2 rfl (by decide) _ n (ints V) rfl (World.ownsRow.alloc (hM.out.get (i := 3) rfl) _) ⟨_, 0, none⟩ 1 1 [.int .i64 v] rfl rfl (by have := news_one wc (.int .i64 v) 3; simpa using this) (by simp [Value.oneCell']) (by omega) (by unfold maxLen; omega) (by omega) (by have := hM.out.sz; simp at this ⊢; omega) _ rfl ?_; intro g2 cap2 w6 hown hgrow hat hlt1; rw [← ints_snoc] at hown; have hm := (hM.out.allocd _).drew.lies (i := 3) rfl hown hgrow hat; clear o2 t1 f1 hlt hown hgrow hat; have t1 := hm.cell (i := 1) rfl 1 (.slice va n cv) rfl; have f1 := hm.free (i := 1) rfl 1; have hlt := hm.lt (i := 1) rfl; have H2 := hideIt (hm.store (i := 1) (j := 1) rfl (.slice (some ⟨g2, 0, none⟩) (n + 1) cap2) rfl); clear hm)
    all_goals
      go_wp2
      exact bodyPost_end (results_none Tryd.results69 _ _ _) rfl ⟨⟨_, rfl⟩, _, _, H2.out.sub (List.sublist_cons_self _ _)⟩
theorem M.pop {w0 w : World} {B i g m cap : Nat} {l : List As} {L : List Int} (h : M w0 B w l) (hi : l[i]? = some (.row 3 1 (.slice (some ⟨g, 0, none⟩) (m + 1) cap) (m + 1) (ints L))) (hL : L.length = m + 1) : M w0 B w (l.set i (.row 3 1 (.slice (some ⟨g, 0, none⟩) m cap) m (ints (L.take m)))) := by
  refine h.upd hi ⟨rfl, rfl, rfl, Nat.le_refl _, fun _ _ _ => rfl⟩ ?_ (Or.inl rfl)
  have hr := (h.get hi).own
  have e : ints L = ints (L.take m) ++ ints (L.drop m) := by unfold ints; rw [← List.map_append, List.take_append_drop]
  rw [e] at hr
  exact ownsRow_pop (by rw [len_ints, List.length_take]; omega) hr

set_option maxRecDepth 100000 in
set_option maxHeartbeats 3200000 in
theorem do_drop (gt m i : Nat) (kv vv : Value) (K V : List Int) (key v : Int) (fr : List As) (w0 w : World) (B : Nat) (hn : m < 1000000000) (hK : K.length = m + 1) (hV : V.length = m + 1) (h1 : K[i]? = some key) (h2 : ∀ j, j < i → K[j]?.getD 0 ≠ key)
    (h : M w0 B w (.blk gt #[kv, vv] 84 :: .row 3 1 kv (m + 1) (ints K) :: .row 3 1 vv (m + 1) (ints V) :: fr)) :
    Calls Tryd.prog 69 #[.pointer (some ⟨gt, 0, none⟩), .agg #[.int .i64 3, .int .i64 key, .int .i64 v]] w fun e w' => (∃ u, e = .returned u) ∧ ∃ kv' vv',
      M w0 B w' (.blk gt #[kv', vv'] 84 :: .row 3 1 kv' m (ints ((K.set i (K[m]?.getD 0)).take m)) :: .row 3 1 vv' m (ints ((V.set i (V[m]?.getD 0)).take m)) :: fr) := by
  have hi : i < m + 1 := by rw [← hK]; exact (List.getElem?_eq_some_iff.1 h1).1
  obtain ⟨gk, ck, rfl⟩ := As.form (h.get (i := 1) rfl) (by omega)
  obtain ⟨gv, cv, rfl⟩ := As.form (h.get (i := 2) rfl) (by omega)
  have A0 := hideIt (h.alloc #[.int .i64 3, .int .i64 key, .int .i64 v] 37)
  have C := hideIt (find_any gt (.slice (some ⟨gk, 0, none⟩) (m + 1) ck) K key (w.alloc (.cells #[.int .i64 3, .int .i64 key, .int .i64 v] 37)) (A0.out.cell (i := 1) rfl 0 (.slice (some ⟨gk, 0, none⟩) (m + 1) ck) rfl) (owns_rd (As.holds.own (by have := A0.out.get (i := 2) rfl; rw [← hK] at this ⊢; exact this))) (by omega))
  have H1 := hideIt h1
  have H2 := hideIt h2
  have hi0 : (0 : Int) ≤ (i : Int) := by omega
  have hi1 : (i : Int) < ((m + 1 : Nat) : Int) := by omega
  have hm0 : (0 : Int) ≤ (m : Int) := by omega
  have hm1 : (m : Int) < ((m + 1 : Nat) : Int) := by omega
  have hms : ((m + 1 : Nat) : Int) - 1 = (m : Int) := by omega
  have HK := hideIt hK
  have HV := hideIt hV
  clear h h1 h2 hK hV
  go_enter Tryd.func69, Tryd.ntmps69
  go_wp2_with fail
  refine C.out.mono ?_
  rintro e w' ⟨r, rfl, hF, rfl⟩
  have hr : r = (i : Int) := by
    rcases hF with ⟨-, hno⟩ | ⟨j, rfl, j1, j2⟩
    · exact absurd (List.mem_of_getElem? H1.out) hno
    · rw [← idx_of_first j1 j2, ← idx_of_first H1.out H2.out]
  subst hr
  clear C hF
  obtain ⟨go, hgo⟩ : ∃ g, w.heap.size = g := ⟨_, rfl⟩
  rw [hgo] at A0 ⊢
  obtain ⟨w1, hw1⟩ : ∃ x, w.alloc (.cells #[.int .i64 3, .int .i64 key, .int .i64 v] 37) = x := ⟨_, rfl⟩
  rw [hw1] at A0 ⊢
  clear hw1 hgo
  have o0 := A0.out.cell (i := 0) rfl 0 (.int .i64 3) rfl
  have t0 := A0.out.cell (i := 1) rfl 0 (.slice (some ⟨gk, 0, none⟩) (m + 1) ck) rfl
  have km := A0.out.rowCell (i := 2) rfl m _ (ints_at' K m (by rw [HK.out]; omega))
  have fk := A0.out.rowFree (i := 2) rfl i
  have ki := A0.out.rowCell (i := 2) rfl i _ (ints_at' K i (by rw [HK.out]; omega))
  have S1 := hideIt (A0.out.storeRow (i := 2) (j := i) rfl (.int .i64 (K[m]?.getD 0)))
  go_upto_region 9 with fail
  go_cut [5] (fun u wy => u = .int .i64 (m : Int) ∧ Hid (M w0 B wy (.blk go #[.int .i64 3, .int .i64 key, .int .i64 v] 37 :: .blk gt #[.slice (some ⟨gk, 0, none⟩) (m + 1) ck, .slice (some ⟨gv, 0, none⟩) (m + 1) cv] 84 :: .row 3 1 (.slice (some ⟨gk, 0, none⟩) (m + 1) ck) (m + 1) (ints (K.set i (K[m]?.getD 0))) :: .row 3 1 (.slice (some ⟨gv, 0, none⟩) (m + 1) cv) (m + 1) (ints V) :: fr)))
  case first =>
    go_region
    all_goals
      go_wp2
      go_meet
      case rel => exact ⟨by go_num, by unfold Hid; rw [← ints_set]; exact S1.out.drew⟩
  case rest =>
    obtain ⟨rfl, hM⟩ := hcut
    clear A0 S1 o0 t0 km fk ki
    have t1 := hM.out.cell (i := 1) rfl 1 (.slice (some ⟨gv, 0, none⟩) (m + 1) cv) rfl
    have vm := hM.out.rowCell (i := 3) rfl m _ (ints_at' V m (by rw [HV.out]; omega))
    have fv := hM.out.rowFree (i := 3) rfl i
    have vi := hM.out.rowCell (i := 3) rfl i _ (ints_at' V i (by rw [HV.out]; omega))
    have S2 := hideIt (hM.out.storeRow (i := 3) (j := i) rfl (.int .i64 (V[m]?.getD 0)))
    go_upto_region 10 with fail
    go_cut [5] (fun u wy => u = .int .i64 (m : Int) ∧ Hid (M w0 B wy (.blk go #[.int .i64 3, .int .i64 key, .int .i64 v] 37 :: .blk gt #[.slice (some ⟨gk, 0, none⟩) (m + 1) ck, .slice (some ⟨gv, 0, none⟩) (m + 1) cv] 84 :: .row 3 1 (.slice (some ⟨gk, 0, none⟩) (m + 1) ck) (m + 1) (ints (K.set i (K[m]?.getD 0))) :: .row 3 1 (.slice (some ⟨gv, 0, none⟩) (m + 1) cv) (m + 1) (ints (V.set i (V[m]?.getD 0))) :: fr)))
    case first =>
      go_region
      all_goals
        go_wp2
        go_meet
        case rel => exact ⟨rfl, by unfold Hid; rw [← ints_set V]; exact S2.out.drew⟩
    case rest =>
      obtain ⟨rfl, hN⟩ := hcut
      clear hM S2 t1 vm fv vi
      have P1 := (hN.out.pop (i := 2) rfl (by rw [List.length_set]; exact HK.out)).pop (i := 3) rfl (by rw [List.length_set]; exact HV.out)
      have Q1 := hideIt ((P1.store (i := 1) (j := 0) rfl (.slice (some ⟨gk, 0, none⟩) m ck) rfl).store (i := 1) (j := 1) rfl (.slice (some ⟨gv, 0, none⟩) m cv) rfl)
      have t0 := hN.out.cell (i := 1) rfl 0 (.slice (some ⟨gk, 0, none⟩) (m + 1) ck) rfl
      have t1 := hN.out.cell (i := 1) rfl 1 (.slice (some ⟨gv, 0, none⟩) (m + 1) cv) rfl
      have f0 := hN.out.free (i := 1) rfl 0
      have f1 := hN.out.free (i := 1) rfl 1
      have c1 : m ≤ ck := by
        rcases (hN.out.get (i := 2) rfl).own.2 with ⟨h, -⟩ | ⟨g, cap, cur, h, -, -, h3, -⟩
        · cases h
        · cases h; omega
      have c2 : m ≤ cv := by
        rcases (hN.out.get (i := 3) rfl).own.2 with ⟨h, -⟩ | ⟨g, cap, cur, h, -, -, h3, -⟩
        · cases h
        · cases h; omega
      clear P1 hN
      go_wp2
      exact bodyPost_end (results_none Tryd.results69 _ _ _) rfl ⟨⟨_, rfl⟩, _, _, Q1.out.sub (List.sublist_cons_self _ _)⟩

set_option maxRecDepth 100000 in
set_option maxHeartbeats 1600000 in
theorem do_none (gt n : Nat) (kv vv : Value) (K V : List Int) (kd key v : Int) (fr : List As) (w0 w : World) (B : Nat) (hn : n ≤ 1000000000) (hK : K.length = n) (h1 : kd ≠ 2) (h2 : kd ≠ 3 ∨ key ∉ K)
    (h : M w0 B w (.blk gt #[kv, vv] 84 :: .row 3 1 kv n (ints K) :: .row 3 1 vv n (ints V) :: fr)) :
    Calls Tryd.prog 69 #[.pointer (some ⟨gt, 0, none⟩), .agg #[.int .i64 kd, .int .i64 key, .int .i64 v]] w fun e w' => (∃ u, e = .returned u) ∧ M w0 B w' (.blk gt #[kv, vv] 84 :: .row 3 1 kv n (ints K) :: .row 3 1 vv n (ints V) :: fr) := by
  have A0 := hideIt (h.alloc #[.int .i64 kd, .int .i64 key, .int .i64 v] 37)
  have C := hideIt (find_any gt kv K key (w.alloc (.cells #[.int .i64 kd, .int .i64 key, .int .i64 v] 37)) (A0.out.cell (i := 1) rfl 0 kv rfl) (owns_rd (As.holds.own (by have := A0.out.get (i := 2) rfl; rw [← hK] at this; exact this))) (by omega))
  have hk2 : (kd == 2) = false := by simp [h1]
  clear h h1 hK
  go_enter Tryd.func69, Tryd.ntmps69
  go_wp2_with fail
  refine C.out.mono ?_
  rintro e w' ⟨r, rfl, hF, rfl⟩
  have o0 := A0.out.cell (i := 0) rfl 0 (.int .i64 kd) rfl
  clear C
  by_cases h3 : kd = 3
  · have hr : r = -1 := by
      rcases hF with ⟨e, -⟩ | ⟨j, rfl, j1, j2⟩
      · exact e
      · rcases h2 with h2 | h2
        · exact absurd h3 h2
        · exact absurd (List.mem_of_getElem? j1) h2
    subst hr
    have hk3 : (kd == 3) = true := by simp [h3]
    clear hF h2 h3
    go_wp2
    exact bodyPost_end (results_none Tryd.results69 _ _ _) rfl ⟨⟨_, rfl⟩, A0.out.sub (List.sublist_cons_self _ _)⟩
  · have hk3 : (kd == 3) = false := by simp [h3]
    clear hF h2 h3
    go_wp2
    exact bodyPost_end (results_none Tryd.results69 _ _ _) rfl ⟨⟨_, rfl⟩, A0.out.sub (List.sublist_cons_self _ _)⟩
end Go.Proofs.YtjpgldeeopmbgaaDoor.Sap
