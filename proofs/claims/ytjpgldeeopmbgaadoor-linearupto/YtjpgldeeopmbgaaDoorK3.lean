/- WHAT IS PROVED HERE: saplingkeep's merged: rows of so many, each in the order of times, two by two made one. Conditions: the list is short. -/
import Derived.Test.YtjpgldeeopmbgaaDoorK2
import Derived.Test.YtjpgldeeopmbgaaDoorN4
namespace Go.Proofs.YtjpgldeeopmbgaaDoor.Sap
open Go.RowKit

theorem infoDone : (Tryd.prog.info? 119).map (fun i => (i.zero, i.size, i.bytes)) = some (some (.agg #[.int .i64 0, .int .i64 0, .int .i64 0, .int .i64 0]), 4, 32) := by kernel_rfl
/-- What took effect, in memory. -/
def dnc (l : List Dn) : List Value := l.flatMap fun d => [.int .i64 d.t, .int .i64 d.k, .int .i64 d.key, .int .i64 d.v]
theorem dnc_snoc (l : List Dn) (d : Dn) : dnc (l ++ [d]) = dnc l ++ [.int .i64 d.t, .int .i64 d.k, .int .i64 d.key, .int .i64 d.v] := by simp [dnc]
theorem dnc_at {l : List Dn} : ∀ {i : Nat} {d : Dn}, l[i]? = some d → (dnc l)[i * 4]? = some (.int .i64 d.t) ∧ (dnc l)[i * 4 + 1]? = some (.int .i64 d.k) ∧ (dnc l)[i * 4 + 2]? = some (.int .i64 d.key) ∧ (dnc l)[i * 4 + 3]? = some (.int .i64 d.v) := by
  induction l with
  | nil => intro i d h; simp at h
  | cons a l ih =>
    intro i d h
    have e : dnc (a :: l) = [.int .i64 a.t, .int .i64 a.k, .int .i64 a.key, .int .i64 a.v] ++ dnc l := rfl
    rw [e]
    cases i with
    | zero => simp at h; subst h; exact ⟨rfl, rfl, rfl, rfl⟩
    | succ i =>
      obtain ⟨h1, h2, h3, h4⟩ := ih (i := i) (d := d) (by simpa using h)
      rw [show (i + 1) * 4 = 4 + i * 4 by omega]
      refine ⟨?_, ?_, ?_, ?_⟩
      · rw [List.getElem?_append_right (by simp)]; simpa using h1
      · rw [List.getElem?_append_right (by simp; omega)]; simpa [Nat.add_assoc] using h2
      · rw [List.getElem?_append_right (by simp; omega)]; simpa [Nat.add_assoc] using h3
      · rw [List.getElem?_append_right (by simp; omega)]; simpa [Nat.add_assoc] using h4

/-- The cells of one of them. -/
theorem M.dnCell {w0 w : World} {B i g n cap : Nat} {l : List As} {L : List Dn} (h : M w0 B w l) (hi : l[i]? = some (.row 119 4 (.slice (some ⟨g, 0, none⟩) n cap) n (dnc L))) {j : Nat} {d : Dn} (hj : L[j]? = some d) (hjn : j < n) :
    w.cell? ⟨g, j * 4, none⟩ = some (.int .i64 d.t) ∧ w.cell? ⟨g, j * 4 + 1, none⟩ = some (.int .i64 d.k) ∧ w.cell? ⟨g, j * 4 + 2, none⟩ = some (.int .i64 d.key) ∧ w.cell? ⟨g, j * 4 + 3, none⟩ = some (.int .i64 d.v) := by
  have hr := (h.get hi).own
  obtain ⟨h1, h2, h3, h4⟩ := dnc_at hj
  refine ⟨?_, ?_, ?_, ?_⟩
  · rw [World.ownsRow.cellAt hr _ (by omega)]; exact h1
  · rw [World.ownsRow.cellAt hr _ (by omega)]; exact h2
  · rw [World.ownsRow.cellAt hr _ (by omega)]; exact h3
  · rw [World.ownsRow.cellAt hr _ (by omega)]; exact h4

set_option maxRecDepth 100000 in
set_option maxHeartbeats 6400000 in
theorem merged_any (lv : Value) (l : List Dn) (W n : Nat) (fr : List As) (w0 w : World) (B : Nat) (hn : l.length = n) (hn1 : n ≤ 100000000) (hW0 : 1 ≤ W) (hW1 : W ≤ 100000000) (hBk : Blk W l)
    (h : M w0 B w (.row 119 4 lv n (dnc l) :: fr)) :
    Calls Tryd.prog 95 #[lv, .int .i64 W] w fun e w' => ∃ ov, e = .returned ov ∧ ∃ out, out.Perm l ∧ Blk (2 * W) out ∧ M w0 B w' (.row 119 4 ov n (dnc out) :: .row 119 4 lv n (dnc l) :: fr) := by
  obtain ⟨j0, hj0, hy0, hy1, hy2⟩ := info_parts infoDone
  obtain ⟨la, lc, rfl⟩ := As.form0 (h.get (i := 0) rfl)
  have A0 := hideIt (M.nil2 (e := 119) (z := 4) (l1 := []) h)
  have HB := hideIt hBk
  have HN := hideIt hn
  have hW0' : (1 : Int) ≤ (W : Int) := by omega
  clear h hBk hn
  go_enter Tryd.func95, Tryd.ntmps95
  go_wp2
  go_loopw [5, 6] (fun ov fm wr => ∃ (q m : Nat) (out : List Dn), fm = .int .i64 (q * (2 * W) : Nat) ∧ q * (2 * W) < n + 2 * W ∧ Hid (out.length = m) ∧ m ≤ n ∧ Hid (Mds l W q out) ∧ Hid (M w0 B wr (.row 119 4 ov m (dnc out) :: .row 119 4 (.slice la n lc) n (dnc l) :: fr))) (fun _ fm _ => n + 2 * W - (intOf fm).toNat)
  case atStart => exact ⟨0, 0, [], by simp, by omega, rfl, by omega, Mds.start l W, A0.out⟩
  case round =>
    clear A0
    obtain ⟨q, m, out, rfl, hq, hol, hm, hD, hM⟩ := hrel
    obtain ⟨oa, oc, rfl⟩ := As.form0 (hM.out.get (i := 0) rfl)
    obtain ⟨F, hF⟩ : ∃ F, q * (2 * W) = F := ⟨_, rfl⟩
    have HF := hideIt hF
    rw [hF] at hq ⊢
    clear hF
    by_cases hlt : F < n
    · have hFn : (F : Int) < (n : Int) := by omega
      obtain ⟨g, lc', hla⟩ := As.form (hM.out.get (i := 1) rfl) (by omega)
      cases hla
      go_wp2
      go_loopw [5, 7, 8] (fun ov vi vj wx => ∃ (i j m2 : Nat) (mm : List Dn), vi = .int .i64 i ∧ vj = .int .i64 j ∧ F ≤ i ∧ i ≤ F + W ∧ F + W ≤ j ∧ j ≤ F + 2 * W ∧ Hid ((out ++ mm).length = m2) ∧ Hid (m2 = m + (i - F) + (j - (F + W))) ∧ m2 ≤ n + 2 * W ∧ Hid (Mrg l W F i j mm) ∧ Hid (M w0 B wx (.row 119 4 ov m2 (dnc (out ++ mm)) :: .row 119 4 (.slice (some ⟨g, 0, none⟩) n lc) n (dnc l) :: fr))) (fun _ vi vj _ => 2 * F + 3 * W - (intOf vi).toNat - (intOf vj).toNat)
      case atStart => exact ⟨F, F + W, m, [], rfl, by go_num, by omega, by omega, by omega, by omega, by unfold Hid; rw [List.append_nil]; exact hol.out, by unfold Hid; omega, by omega, Mrg.start l W F, by unfold Hid; rw [List.append_nil]; exact hM.out⟩
      case round =>
        clear hM hol
        obtain ⟨i, j, m2, mm, rfl, rfl, hi0, hi1, hjj0, hjj1, hol2, hm2, hmx, hG, hN⟩ := hrel
        obtain ⟨na, nc, rfl⟩ := As.form0 (hN.out.get (i := 0) rfl)
        have hi00 : (0 : Int) ≤ (i : Int) := by omega
        have hj00 : (0 : Int) ≤ (j : Int) := by omega
        rcases (show (i < F + W ∧ i < n) ∨ ¬ i < F + W ∨ (i < F + W ∧ ¬ i < n) by omega) with hI | hI | hI
        · have hI1 : (i : Int) < (F : Int) + (W : Int) := by omega
          have hI2 : (i : Int) < (n : Int) := by omega
          obtain ⟨d, hdi⟩ : ∃ d, l[i]? = some d := ⟨_, List.getElem?_eq_getElem (by rw [HN.out]; exact hI.2)⟩
          have HDI := hideIt hdi
          clear hdi
          rcases (show (j < F + 2 * W ∧ j < n) ∨ ¬ j < F + 2 * W ∨ (j < F + 2 * W ∧ ¬ j < n) by omega) with hJ | hJ | hJ
          · have hJ1 : (j : Int) < (F : Int) + 2 * (W : Int) := by omega
            have hJ2 : (j : Int) < (n : Int) := by omega
            obtain ⟨d2, hdj⟩ : ∃ d, l[j]? = some d := ⟨_, List.getElem?_eq_getElem (by rw [HN.out]; exact hJ.2)⟩
            have HDJ := hideIt hdj
            clear hdj
            obtain ⟨y0, y1, y2, y3⟩ := hN.out.dnCell (i := 1) rfl HDI.out (by omega)
            obtain ⟨z0, z1, z2, z3⟩ := hN.out.dnCell (i := 1) rfl HDJ.out (by omega)
            by_cases hle : d.t ≤ d2.t
            · have HR : Hid (Mrg l W F (i + 1) j (mm ++ [d])) := by
                unfold Hid
                have h1 := hG.out
                rw [← HF.out] at h1 ⊢
                exact h1.takeI HB.out (by rw [HF.out]; omega) HDI.out (fun h2 h3 => by rw [tAt_get HDJ.out]; exact hle)
              go_wp2
              go_quiet (fail)
              have hN := hideIt (hN.out.drewN nq)
              go_wp2_with (at_builtin; refine wpList_append_lies _ rfl _ _ 56 rfl B 119 j0 (.agg #[.int .i64 0, .int .i64 0, .int .i64 0, .int .i64 0]) 4 32 Tryd.underlying56 hj0 hy0 hy1 hy2 rfl (by decide) _ m2 (dnc (out ++ mm)) rfl (World.ownsRow.alloc (hN.out.get (i := 0) rfl).own _) ⟨_, 0, none⟩ 1 1 [.int .i64 d.t, .int .i64 d.k, .int .i64 d.key, .int .i64 d.v] rfl rfl (World.news_of_block (heap_alloc_new _ _)) (by simp [Value.oneCell']) (by omega) (by unfold maxLen; omega) (by omega) (by have := hN.out.sz; simp at this ⊢; omega) _ rfl ?_; intro g1 cap1 w5 hown hgrow hat hlt1; rw [← dnc_snoc, List.append_assoc] at hown; have H1 := hideIt ((hN.out.allocd _).lies (i := 0) rfl hown hgrow hat); clear hown hgrow hat)
              go_roundw
              case rel => exact ⟨i + 1, j, m2 + 1, mm ++ [d], by go_num, rfl, by omega, by omega, by omega, by omega, by unfold Hid; rw [List.length_append, List.length_append, List.length_singleton, ← Nat.add_assoc, ← List.length_append, hol2.out], by have := hm2.out; unfold Hid; omega, by have := hm2.out; omega, HR.out, H1.out⟩
              case measure => simp [intOf]; omega
            · have HR : Hid (Mrg l W F i (j + 1) (mm ++ [d2])) := by
                unfold Hid
                have h1 := hG.out
                rw [← HF.out] at h1 ⊢
                exact h1.takeJ HB.out (by rw [HF.out]; omega) HDJ.out (fun h2 h3 => by rw [tAt_get HDI.out]; omega)
              go_wp2
              go_quiet (fail)
              have hN := hideIt (hN.out.drewN nq)
              go_wp2_with (at_builtin; refine wpList_append_lies _ rfl _ _ 56 rfl B 119 j0 (.agg #[.int .i64 0, .int .i64 0, .int .i64 0, .int .i64 0]) 4 32 Tryd.underlying56 hj0 hy0 hy1 hy2 rfl (by decide) _ m2 (dnc (out ++ mm)) rfl (World.ownsRow.alloc (hN.out.get (i := 0) rfl).own _) ⟨_, 0, none⟩ 1 1 [.int .i64 d2.t, .int .i64 d2.k, .int .i64 d2.key, .int .i64 d2.v] rfl rfl (World.news_of_block (heap_alloc_new _ _)) (by simp [Value.oneCell']) (by omega) (by unfold maxLen; omega) (by omega) (by have := hN.out.sz; simp at this ⊢; omega) _ rfl ?_; intro g1 cap1 w5 hown hgrow hat hlt1; rw [← dnc_snoc, List.append_assoc] at hown; have H1 := hideIt ((hN.out.allocd _).lies (i := 0) rfl hown hgrow hat); clear hown hgrow hat)
              go_roundw
              case rel => exact ⟨i, j + 1, m2 + 1, mm ++ [d2], rfl, by go_num, by omega, by omega, by omega, by omega, by unfold Hid; rw [List.length_append, List.length_append, List.length_singleton, ← Nat.add_assoc, ← List.length_append, hol2.out], by have := hm2.out; unfold Hid; omega, by have := hm2.out; omega, HR.out, H1.out⟩
              case measure => simp [intOf]; omega
          · have hJ1 : ¬ (j : Int) < (F : Int) + 2 * (W : Int) := by omega
            obtain ⟨y0, y1, y2, y3⟩ := hN.out.dnCell (i := 1) rfl HDI.out (by omega)
            have HR : Hid (Mrg l W F (i + 1) j (mm ++ [d])) := by
              unfold Hid
              have h1 := hG.out
              rw [← HF.out] at h1 ⊢
              exact h1.takeI HB.out (by rw [HF.out]; omega) HDI.out (fun h2 h3 => by rw [HF.out] at h2; rw [HN.out] at h3; omega)
            go_wp2_with (at_builtin; refine wpList_append_lies _ rfl _ _ 56 rfl B 119 j0 (.agg #[.int .i64 0, .int .i64 0, .int .i64 0, .int .i64 0]) 4 32 Tryd.underlying56 hj0 hy0 hy1 hy2 rfl (by decide) _ m2 (dnc (out ++ mm)) rfl (World.ownsRow.alloc (hN.out.get (i := 0) rfl).own _) ⟨_, 0, none⟩ 1 1 [.int .i64 d.t, .int .i64 d.k, .int .i64 d.key, .int .i64 d.v] rfl rfl (World.news_of_block (heap_alloc_new _ _)) (by simp [Value.oneCell']) (by omega) (by unfold maxLen; omega) (by omega) (by have := hN.out.sz; simp at this ⊢; omega) _ rfl ?_; intro g1 cap1 w5 hown hgrow hat hlt1; rw [← dnc_snoc, List.append_assoc] at hown; have H1 := hideIt ((hN.out.allocd _).lies (i := 0) rfl hown hgrow hat); clear hown hgrow hat)
            go_roundw
            case rel => exact ⟨i + 1, j, m2 + 1, mm ++ [d], by go_num, rfl, by omega, by omega, by omega, by omega, by unfold Hid; rw [List.length_append, List.length_append, List.length_singleton, ← Nat.add_assoc, ← List.length_append, hol2.out], by have := hm2.out; unfold Hid; omega, by have := hm2.out; omega, HR.out, H1.out⟩
            case measure => simp [intOf]; omega
          · have hJ1 : (j : Int) < (F : Int) + 2 * (W : Int) := by omega
            have hJ2 : ¬ (j : Int) < (n : Int) := by omega
            obtain ⟨y0, y1, y2, y3⟩ := hN.out.dnCell (i := 1) rfl HDI.out (by omega)
            have HR : Hid (Mrg l W F (i + 1) j (mm ++ [d])) := by
              unfold Hid
              have h1 := hG.out
              rw [← HF.out] at h1 ⊢
              exact h1.takeI HB.out (by rw [HF.out]; omega) HDI.out (fun h2 h3 => by rw [HF.out] at h2; rw [HN.out] at h3; omega)
            go_wp2_with (at_builtin; refine wpList_append_lies _ rfl _ _ 56 rfl B 119 j0 (.agg #[.int .i64 0, .int .i64 0, .int .i64 0, .int .i64 0]) 4 32 Tryd.underlying56 hj0 hy0 hy1 hy2 rfl (by decide) _ m2 (dnc (out ++ mm)) rfl (World.ownsRow.alloc (hN.out.get (i := 0) rfl).own _) ⟨_, 0, none⟩ 1 1 [.int .i64 d.t, .int .i64 d.k, .int .i64 d.key, .int .i64 d.v] rfl rfl (World.news_of_block (heap_alloc_new _ _)) (by simp [Value.oneCell']) (by omega) (by unfold maxLen; omega) (by omega) (by have := hN.out.sz; simp at this ⊢; omega) _ rfl ?_; intro g1 cap1 w5 hown hgrow hat hlt1; rw [← dnc_snoc, List.append_assoc] at hown; have H1 := hideIt ((hN.out.allocd _).lies (i := 0) rfl hown hgrow hat); clear hown hgrow hat)
            go_roundw
            case rel => exact ⟨i + 1, j, m2 + 1, mm ++ [d], by go_num, rfl, by omega, by omega, by omega, by omega, by unfold Hid; rw [List.length_append, List.length_append, List.length_singleton, ← Nat.add_assoc, ← List.length_append, hol2.out], by have := hm2.out; unfold Hid; omega, by have := hm2.out; omega, HR.out, H1.out⟩
            case measure => simp [intOf]; omega
        · have hI1 : ¬ (i : Int) < (F : Int) + (W : Int) := by omega
          rcases (show (j < F + 2 * W ∧ j < n) ∨ ¬ j < F + 2 * W ∨ (j < F + 2 * W ∧ ¬ j < n) by omega) with hJ | hJ | hJ
          · have hJ1 : (j : Int) < (F : Int) + 2 * (W : Int) := by omega
            have hJ2 : (j : Int) < (n : Int) := by omega
            obtain ⟨d, hdj⟩ : ∃ d, l[j]? = some d := ⟨_, List.getElem?_eq_getElem (by rw [HN.out]; exact hJ.2)⟩
            have HDJ := hideIt hdj
            clear hdj
            obtain ⟨y0, y1, y2, y3⟩ := hN.out.dnCell (i := 1) rfl HDJ.out (by omega)
            have HR : Hid (Mrg l W F i (j + 1) (mm ++ [d])) := by
              unfold Hid
              have h1 := hG.out
              rw [← HF.out] at h1 ⊢
              exact h1.takeJ HB.out (by rw [HF.out]; omega) HDJ.out (fun h2 h3 => by rw [HF.out] at h2; rw [HN.out] at h3; omega)
            go_wp2_with (at_builtin; refine wpList_append_lies _ rfl _ _ 56 rfl B 119 j0 (.agg #[.int .i64 0, .int .i64 0, .int .i64 0, .int .i64 0]) 4 32 Tryd.underlying56 hj0 hy0 hy1 hy2 rfl (by decide) _ m2 (dnc (out ++ mm)) rfl (World.ownsRow.alloc (hN.out.get (i := 0) rfl).own _) ⟨_, 0, none⟩ 1 1 [.int .i64 d.t, .int .i64 d.k, .int .i64 d.key, .int .i64 d.v] rfl rfl (World.news_of_block (heap_alloc_new _ _)) (by simp [Value.oneCell']) (by omega) (by unfold maxLen; omega) (by omega) (by have := hN.out.sz; simp at this ⊢; omega) _ rfl ?_; intro g1 cap1 w5 hown hgrow hat hlt1; rw [← dnc_snoc, List.append_assoc] at hown; have H1 := hideIt ((hN.out.allocd _).lies (i := 0) rfl hown hgrow hat); clear hown hgrow hat)
            go_roundw
            case rel => exact ⟨i, j + 1, m2 + 1, mm ++ [d], rfl, by go_num, by omega, by omega, by omega, by omega, by unfold Hid; rw [List.length_append, List.length_append, List.length_singleton, ← Nat.add_assoc, ← List.length_append, hol2.out], by have := hm2.out; unfold Hid; omega, by have := hm2.out; omega, HR.out, H1.out⟩
            case measure => simp [intOf]; omega
          · have hJ1 : ¬ (j : Int) < (F : Int) + 2 * (W : Int) := by omega
            have HS : Hid (Mds l W (q + 1) (out ++ mm)) := hD.out.step (by rw [HF.out]; exact hG.out) (by rw [HF.out, HN.out]; exact hlt) (by rw [HF.out, HN.out]; omega) (by rw [HF.out, HN.out]; omega)
            have hml : m2 ≤ n := by
              have h1 := HS.out.pm.length_eq
              rw [hol2.out, List.length_take, HN.out] at h1
              omega
            have e1 : Hid ((q + 1) * (2 * W) = F + 2 * W) := by unfold Hid; rw [Nat.add_mul, Nat.one_mul, HF.out]
            go_wp2
            go_roundw
            case rel => exact ⟨q + 1, m2, out ++ mm, by rw [e1.out]; go_num, by rw [e1.out]; omega, hol2.out, hml, HS.out, hN.out⟩
            case measure => simp [intOf]; omega
          · have hJ1 : (j : Int) < (F : Int) + 2 * (W : Int) := by omega
            have hJ2 : ¬ (j : Int) < (n : Int) := by omega
            have HS : Hid (Mds l W (q + 1) (out ++ mm)) := hD.out.step (by rw [HF.out]; exact hG.out) (by rw [HF.out, HN.out]; exact hlt) (by rw [HF.out, HN.out]; omega) (by rw [HF.out, HN.out]; omega)
            have hml : m2 ≤ n := by
              have h1 := HS.out.pm.length_eq
              rw [hol2.out, List.length_take, HN.out] at h1
              omega
            have e1 : Hid ((q + 1) * (2 * W) = F + 2 * W) := by unfold Hid; rw [Nat.add_mul, Nat.one_mul, HF.out]
            go_wp2
            go_roundw
            case rel => exact ⟨q + 1, m2, out ++ mm, by rw [e1.out]; go_num, by rw [e1.out]; omega, hol2.out, hml, HS.out, hN.out⟩
            case measure => simp [intOf]; omega
        · have hI1 : (i : Int) < (F : Int) + (W : Int) := by omega
          have hI2 : ¬ (i : Int) < (n : Int) := by omega
          rcases (show (j < F + 2 * W ∧ j < n) ∨ ¬ j < F + 2 * W ∨ (j < F + 2 * W ∧ ¬ j < n) by omega) with hJ | hJ | hJ
          · have hJ1 : (j : Int) < (F : Int) + 2 * (W : Int) := by omega
            have hJ2 : (j : Int) < (n : Int) := by omega
            exfalso
            omega
          · have hJ1 : ¬ (j : Int) < (F : Int) + 2 * (W : Int) := by omega
            have HS : Hid (Mds l W (q + 1) (out ++ mm)) := hD.out.step (by rw [HF.out]; exact hG.out) (by rw [HF.out, HN.out]; exact hlt) (by rw [HF.out, HN.out]; omega) (by rw [HF.out, HN.out]; omega)
            have hml : m2 ≤ n := by
              have h1 := HS.out.pm.length_eq
              rw [hol2.out, List.length_take, HN.out] at h1
              omega
            have e1 : Hid ((q + 1) * (2 * W) = F + 2 * W) := by unfold Hid; rw [Nat.add_mul, Nat.one_mul, HF.out]
            go_wp2
            go_roundw
            case rel => exact ⟨q + 1, m2, out ++ mm, by rw [e1.out]; go_num, by rw [e1.out]; omega, hol2.out, hml, HS.out, hN.out⟩
            case measure => simp [intOf]; omega
          · have hJ1 : (j : Int) < (F : Int) + 2 * (W : Int) := by omega
            have hJ2 : ¬ (j : Int) < (n : Int) := by omega
            have HS : Hid (Mds l W (q + 1) (out ++ mm)) := hD.out.step (by rw [HF.out]; exact hG.out) (by rw [HF.out, HN.out]; exact hlt) (by rw [HF.out, HN.out]; omega) (by rw [HF.out, HN.out]; omega)
            have hml : m2 ≤ n := by
              have h1 := HS.out.pm.length_eq
              rw [hol2.out, List.length_take, HN.out] at h1
              omega
            have e1 : Hid ((q + 1) * (2 * W) = F + 2 * W) := by unfold Hid; rw [Nat.add_mul, Nat.one_mul, HF.out]
            go_wp2
            go_roundw
            case rel => exact ⟨q + 1, m2, out ++ mm, by rw [e1.out]; go_num, by rw [e1.out]; omega, hol2.out, hml, HS.out, hN.out⟩
            case measure => simp [intOf]; omega
    · have hFn2 : ¬ (F : Int) < (n : Int) := by omega
      obtain ⟨hp, hb⟩ := hD.out.done (by rw [HN.out, HF.out]; omega)
      have HP := hideIt hp
      have HB2 := hideIt hb
      have hmn : m = n := by rw [← hol.out, ← HN.out]; exact hp.length_eq
      subst hmn
      clear hp hb
      go_wp2
      go_ret
      exact ⟨_, rfl, out, HP.out, HB2.out, hM.out⟩
end Go.Proofs.YtjpgldeeopmbgaaDoor.Sap
