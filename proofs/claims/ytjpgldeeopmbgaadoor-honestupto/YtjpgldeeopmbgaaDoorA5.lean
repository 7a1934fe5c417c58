/- WHAT IS PROVED HERE: what legal, act and learns do at each kind of access, as one step on the pages and on what an operation knows. Conditions: named at each theorem. -/
import Derived.Test.YtjpgldeeopmbgaaDoorM2
namespace Go.Proofs.YtjpgldeeopmbgaaDoor.Sap
open Go.RowKit

theorem ints_get {L : List Int} {i : Nat} {x : Int} (h : L[i]? = some x) : (ints L)[i]? = some (.int .i64 x) := by simp [ints, h]
theorem strs_get {L : List ByteArray} {i : Nat} {x : ByteArray} (h : L[i]? = some x) : (strs L)[i]? = some (.string x) := by simp [strs, h]
theorem bools_get {L : List Bool} {i : Nat} {x : Bool} (h : L[i]? = some x) : (bools L)[i]? = some (.bool x) := by simp [bools, h]
theorem strs_setx (L : List ByteArray) (i : Nat) (x : ByteArray) : (strs L).set i (.string x) = strs (L.set i x) := by simp [strs, List.map_set]
theorem bools_setx (L : List Bool) (i : Nat) (x : Bool) : (bools L).set i (.bool x) = bools (L.set i x) := by simp [bools, List.map_set]

/-- One access, as the document has it: what is asked, what the pages were and are, what the operation knew and knows, what is replied. -/
structure AccR (kd ak ap av : Int) (at' : ByteArray) (T : List ByteArray) (U : List Bool) (V kns : List Int) (drf : Bool) (rv rp : Int) (rt : ByteArray) (rd : Bool) (T' : List ByteArray) (U' : List Bool) (V' kns' : List Int) (drf' : Bool) : Prop where
  is : (∃ p : Nat, ak = 1 ∧ ap = p ∧ p < 64 ∧ av = 0 ∧ at' = ⟨#[]⟩ ∧ U[p]? = some true ∧ T[p]? = some rt ∧ V[p]? = some rv ∧ rp = 0 ∧ rd = false ∧ T' = T ∧ U' = U ∧ V' = V ∧ kns' = kns.set p rv ∧ drf' = drf)
    ∨ (∃ p : Nat, ak = 2 ∧ ap = p ∧ p < 64 ∧ 0 ≤ av ∧ av ≤ 1000000000 ∧ (kd = 2 ∨ kd = 3) ∧ (∃ n, Unp at'.data.toList n) ∧ U[p]? = some true ∧ kns[p]? = some av ∧ rv = 0 ∧ rp = 0 ∧ rt = ⟨#[]⟩ ∧ U' = U ∧ drf' = drf ∧
        ((V[p]? = some av ∧ rd = true ∧ (∃ t0, T[p]? = some t0) ∧ T' = T.set p at' ∧ V' = V.set p (av + 1) ∧ kns' = kns.set p (av + 1)) ∨ (∃ cur, V[p]? = some cur ∧ cur ≠ av ∧ rd = false ∧ T' = T ∧ V' = V ∧ kns' = kns)))
    ∨ (ak = 3 ∧ ap = 0 ∧ av = 0 ∧ (kd = 2 ∨ kd = 3) ∧ (∃ n, Unp at'.data.toList n) ∧ (∃ b, U[0]? = some b) ∧ rv = 0 ∧ rt = ⟨#[]⟩ ∧ rd = false ∧
        ((∃ f : Nat, f < 64 ∧ U[f]? = some false ∧ (∀ k, k < f → U[k]? = some true) ∧ (∃ t0, T[f]? = some t0) ∧ (∃ v0, V[f]? = some v0) ∧ rp = f ∧ U' = U.set f true ∧ T' = T.set f at' ∧ V' = V.set f 0 ∧ kns' = kns.set f 0 ∧ drf' = drf) ∨ ((∀ k, k < 64 → U[k]? = some true) ∧ rp = -1 ∧ U' = U ∧ T' = T ∧ V' = V ∧ kns' = kns ∧ drf' = true)))

theorem size_of_unp {t : ByteArray} (h : ∃ n, Unp t.data.toList n) : t.size ≤ 47 := by
  obtain ⟨n, hn⟩ := h
  have := (len_packT n hn.1).2
  rw [hn.2, ba_size] at this
  exact this

/-- Nothing is asked but what may be. -/
theorem acc_legal {gd kg kc gw tg tc ug uc vg vc dg dc bg bc nd : Nat} {k key v : Int} {f : ByteArray} {tm : Value} {nt : Nat} {drf : Bool} {kns ts : List Int} {now puts : Int} {rf wt kp : Bool} {cv ov : Value} {bs : List Int} {ds : List Value} {T : List ByteArray} {U : List Bool} {V : List Int} {fr : List As} {w0 W : World} {B ga : Nat}
    {ak ap av rv rp : Int} {at' rt : ByteArray} {rd : Bool} {T' : List ByteArray} {U' : List Bool} {V' kns' : List Int} {drf' : Bool} (hA : AccR k ak ap av at' T U V kns drf rv rp rt rd T' U' V' kns' drf')
    (h : M w0 B W (.blk ga #[.int .i64 ak, .int .i64 ap, .int .i64 av, .string at'] 45 :: LM gd kg kc gw tg tc ug uc vg vc dg dc bg bc nd k key v f tm nt drf kns ts now puts rf wt kp cv ov bs ds T U V fr)) :
    Calls Tryd.prog 89 #[.pointer (some ⟨gw, 0, none⟩), .pointer (some ⟨gd, 0, none⟩), .agg #[.int .i64 ak, .int .i64 ap, .int .i64 av, .string at']] W fun e w' => e = .returned (.bool true) ∧ Below W.heap.size W w' := by
  have c1 := h.cell (i := 4) rfl 1 (.slice (some ⟨ug, 0, none⟩) 64 uc) rfl
  have k0 := h.cell (i := 1) rfl 0 (.int .i64 k) rfl
  have k5 := h.cell (i := 1) rfl 5 (.slice (some ⟨kg, 0, none⟩) 64 kc) rfl
  rcases hA.is with ⟨p, rfl, rfl, hp, rfl, rfl, hU, -⟩ | ⟨p, rfl, rfl, hp, h0, -, hk, ht, hU, hkn, -⟩ | ⟨rfl, rfl, rfl, hk, ht, ⟨b, hU⟩, -⟩
  · exact legal_read gw ug uc p _ _ c1 (h.rowCell (i := 8) rfl p _ (bools_get hU)) hp
  · exact legal_swap gw ug uc gd kg kc p k av at' W c1 (h.rowCell (i := 8) rfl p _ (bools_get hU)) hp k0 k5 (h.rowCell (i := 2) rfl p _ (ints_get hkn)) hk h0 ht
  · exact legal_fresh gw ug uc gd 0 b k 0 at' W c1 (h.rowCell (i := 8) rfl 0 _ (bools_get hU)) (by omega) k0 hk ht

set_option maxHeartbeats 1600000 in
theorem acc_act {gd kg kc gw tg tc ug uc vg vc dg dc bg bc nd : Nat} {k key v : Int} {f : ByteArray} {tm : Value} {nt : Nat} {drf : Bool} {kns ts : List Int} {now puts : Int} {rf wt kp : Bool} {cv ov : Value} {bs : List Int} {ds : List Value} {T : List ByteArray} {U : List Bool} {V : List Int} {fr : List As} {w0 W : World} {B ga : Nat}
    {ak ap av rv rp : Int} {at' rt : ByteArray} {rd : Bool} {T' : List ByteArray} {U' : List Bool} {V' kns' : List Int} {drf' : Bool} (hA : AccR k ak ap av at' T U V kns drf rv rp rt rd T' U' V' kns' drf')
    (h : M w0 B W (.blk ga #[.int .i64 ak, .int .i64 ap, .int .i64 av, .string at'] 45 :: LM gd kg kc gw tg tc ug uc vg vc dg dc bg bc nd k key v f tm nt drf kns ts now puts rf wt kp cv ov bs ds T U V fr)) :
    Calls Tryd.prog 90 #[.pointer (some ⟨gw, 0, none⟩), .agg #[.int .i64 ak, .int .i64 ap, .int .i64 av, .string at']] W fun e w' => e = .returned (.agg #[.int .i64 rv, .int .i64 rp, .string rt, .bool rd]) ∧ M w0 B w' (.blk ga #[.int .i64 ak, .int .i64 ap, .int .i64 av, .string at'] 45 :: LM gd kg kc gw tg tc ug uc vg vc dg dc bg bc nd k key v f tm nt drf kns ts now puts rf wt kp cv ov bs ds T' U' V' fr) := by
  have c0 := h.cell (i := 4) rfl 0 (.slice (some ⟨tg, 0, none⟩) 64 tc) rfl
  have c1 := h.cell (i := 4) rfl 1 (.slice (some ⟨ug, 0, none⟩) 64 uc) rfl
  have c2 := h.cell (i := 4) rfl 2 (.slice (some ⟨vg, 0, none⟩) 64 vc) rfl
  rcases hA.is with ⟨p, rfl, rfl, hp, rfl, rfl, hU, hT, hV, rfl, rfl, rfl, rfl, rfl, -⟩ | ⟨p, rfl, rfl, hp, h0, h1, hk, ht, hU, hkn, rfl, rfl, rfl, rfl, -, hx⟩ | ⟨rfl, rfl, rfl, hk, ht, ⟨b, hU⟩, rfl, rfl, rfl, hx⟩
  · refine (act_read gw ug uc tg tc vg vc p rt rv W c1 (h.rowCell (i := 8) rfl p _ (bools_get hU)) hp c0 (h.rowCell (i := 7) rfl p _ (strs_get hT)) c2 (h.rowCell (i := 9) rfl p _ (ints_get hV))).mono ?_
    rintro e w' ⟨rfl, hb⟩
    exact ⟨rfl, h.below hb⟩
  · rcases hx with ⟨hV, rfl, ⟨t0, hT⟩, rfl, rfl, -⟩ | ⟨cur, hV, hne, rfl, rfl, rfl, -⟩
    · refine (act_swap gw ug uc tg tc vg vc p at' t0 av w0 W B 4 7 8 9 _ _ (strs T) (bools U') (ints V) h rfl rfl rfl rfl rfl rfl rfl (by omega) hp (strs_get hT) (bools_get hU) (ints_get hV) h0 h1 (size_of_unp ht)).mono ?_
      rintro e w' ⟨rfl, hM⟩
      refine ⟨rfl, ?_⟩
      unfold LM
      rw [← strs_setx, ← ints_setx]
      exact hM
    · refine (act_swap_no gw ug uc vg vc p at' av cur W c1 c2 hp (h.rowCell (i := 8) rfl p _ (bools_get hU)) (h.rowCell (i := 9) rfl p _ (ints_get hV)) hne (size_of_unp ht)).mono ?_
      rintro e w' ⟨rfl, hb⟩
      exact ⟨rfl, h.below hb⟩
  · rcases hx with ⟨f', hf, hUf, hUl, ⟨t0, hT⟩, ⟨v0, hV⟩, rfl, rfl, rfl, rfl, -⟩ | ⟨hall, rfl, rfl, rfl, rfl, -⟩
    · refine (act_fresh gw ug uc tg tc vg vc f' 0 b at' t0 0 v0 w0 W B 4 7 8 9 _ _ (strs T) (bools U) (ints V) h rfl rfl rfl rfl rfl rfl rfl (by omega) (by omega) (by omega) hf (by omega) (bools_get hU) (strs_get hT) (bools_get hUf) (fun k hk => bools_get (hUl k hk)) (ints_get hV) (size_of_unp ht)).mono ?_
      rintro e w' ⟨rfl, hM⟩
      refine ⟨rfl, ?_⟩
      unfold LM
      rw [← strs_setx, ← ints_setx, ← bools_setx]
      exact hM
    · refine (act_fresh_no gw ug uc 0 at' 0 W c1 (by omega) (fun k hk => h.rowCell (i := 8) rfl k _ (bools_get (hall k hk))) (size_of_unp ht)).mono ?_
      rintro e w' ⟨rfl, hb⟩
      exact ⟨rfl, h.below hb⟩

set_option maxHeartbeats 1600000 in
theorem acc_learns {gd kg kc gw tg tc ug uc vg vc dg dc bg bc nd : Nat} {k key v : Int} {f : ByteArray} {tm : Value} {nt : Nat} {drf : Bool} {kns ts : List Int} {now puts : Int} {rf wt kp : Bool} {cv ov : Value} {bs : List Int} {ds : List Value} {T : List ByteArray} {U : List Bool} {V : List Int} {fr : List As} {w0 W : World} {B ga gr : Nat}
    {ak ap av rv rp : Int} {at' rt : ByteArray} {rd : Bool} {T' : List ByteArray} {U' : List Bool} {V' kns' : List Int} {drf' : Bool} (hA : AccR k ak ap av at' T U V kns drf rv rp rt rd T' U' V' kns' drf')
    (h : M w0 B W (.blk gr #[.int .i64 rv, .int .i64 rp, .string rt, .bool rd] 86 :: .blk ga #[.int .i64 ak, .int .i64 ap, .int .i64 av, .string at'] 45 :: LM gd kg kc gw tg tc ug uc vg vc dg dc bg bc nd k key v f tm nt drf kns ts now puts rf wt kp cv ov bs ds T' U' V' fr)) :
    Calls Tryd.prog 91 #[.pointer (some ⟨gd, 0, none⟩), .agg #[.int .i64 ak, .int .i64 ap, .int .i64 av, .string at'], .agg #[.int .i64 rv, .int .i64 rp, .string rt, .bool rd]] W fun e w' => (∃ u, e = .returned u) ∧ M w0 B w' (.blk gr #[.int .i64 rv, .int .i64 rp, .string rt, .bool rd] 86 :: .blk ga #[.int .i64 ak, .int .i64 ap, .int .i64 av, .string at'] 45 :: LM gd kg kc gw tg tc ug uc vg vc dg dc bg bc nd k key v f tm nt drf' kns' ts now puts rf wt kp cv ov bs ds T' U' V' fr) := by
  rcases hA.is with ⟨p, rfl, rfl, hp, rfl, rfl, hU, hT, hV, rfl, rfl, rfl, rfl, rfl, rfl, rfl⟩ | ⟨p, rfl, rfl, hp, h0, h1, hk, ht, hU, hkn, rfl, rfl, rfl, rfl, rfl, hx⟩ | ⟨rfl, rfl, rfl, hk, ht, ⟨b, hU⟩, rfl, rfl, rfl, hx⟩
  · refine (learns_read gd kg kc p rt rv w0 W B 2 3 _ _ (ints kns) h rfl rfl rfl hp).mono ?_
    rintro e w' ⟨he, hM⟩
    refine ⟨he, ?_⟩
    unfold LM
    rw [← ints_setx kns]
    exact hM
  · rcases hx with ⟨hV, rfl, ⟨t0, hT⟩, rfl, rfl, rfl⟩ | ⟨cur, hV, hne, rfl, rfl, rfl, rfl⟩
    · refine (learns_swap gd kg kc p at' av w0 W B 2 3 _ _ (ints kns) h rfl rfl rfl hp h0 h1).mono ?_
      rintro e w' ⟨he, hM⟩
      refine ⟨he, ?_⟩
      unfold LM
      rw [← ints_setx kns]
      exact hM
    · refine (learns_swap_no gd p at' av W).mono ?_
      rintro e w' ⟨he, hb⟩
      exact ⟨he, h.below hb⟩
  · rcases hx with ⟨f', hf, hUf, hUl, ⟨t0, hT⟩, ⟨v0, hV⟩, rfl, rfl, rfl, rfl, rfl, rfl⟩ | ⟨hall, rfl, rfl, rfl, rfl, rfl, rfl⟩
    · refine (learns_fresh gd kg kc f' 0 0 at' w0 W B 2 3 _ _ (ints kns) h rfl rfl rfl hf).mono ?_
      rintro e w' ⟨he, hM⟩
      refine ⟨he, ?_⟩
      unfold LM
      rw [← ints_setx kns]
      exact hM
    · refine (learns_fresh_no gd 0 0 at' w0 W B 2 _ _ _ (.bool drf) h rfl rfl rfl).mono ?_
      rintro e w' ⟨he, hM⟩
      exact ⟨he, hM⟩
end Go.Proofs.YtjpgldeeopmbgaaDoor.Sap
