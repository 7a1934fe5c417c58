/- WHAT IS PROVED HERE: saplingkeep's merged: rows of so many, each in the order of times, two by two made one. Conditions: the list is short. -/
import Derived.Test.YtajobgmnmbnhiaaGreatDoorPt35
import Derived.BigRegion
import Derived.BigQuiet
namespace Go.Proofs.YtajobgmnmbnhiaaGreatDoor.Sap
open Go.RowKit
theorem infoDone : (Tryz.prog.info? 109).map (fun i => (i.zero, i.size, i.bytes)) = some (some (.agg #[.int .i64 0, .int .i64 0, .int .i64 0, .int .i64 0]), 4, 32) := by kernel_rfl
def dnc (l : List Dn) : List Value := l.flatMap fun d => [.int .i64 d.t, .int .i64 d.k, .int .i64 d.key, .int .i64 d.v]
theorem dnc_snoc (l : List Dn) (d : Dn) : dnc (l ++ [d]) = dnc l ++ [.int .i64 d.t, .int .i64 d.k, .int .i64 d.key, .int .i64 d.v] := by simp [dnc]
theorem dnc_at {l : List Dn} : ∀ {i : Nat} {d : Dn}, l[i]? = some d → (dnc l)[i * 4]? = some (.int .i64 d.t) ∧ (dnc l)[i * 4 + 1]? = some (.int .i64 d.k) ∧ (dnc l)[i * 4 + 2]? = some (.int .i64 d.key) ∧ (dnc l)[i * 4 + 3]? = some (.int .i64 d.v) := by
  induction l with
  | nil => intro i d h; simp at h
  | cons a l ih =>
    intro i d h
    have e : dnc (a :: l) = [.int .i64 a.t, .int .i64 a.k, .int .i64 a.key, .int .i64 a.v] ++ dnc l := rfl
    rw [e]
    cases i with
    | zero => simp at h; subst h; exact ⟨rfl, rfl, rfl, rfl⟩
    | succ i =>
      obtain ⟨h1, h2, h3, h4⟩ := ih (i := i) (d := d) (by simpa using h)
      rw [show (i + 1) * 4 = 4 + i * 4 by omega]
      refine ⟨?_, ?_, ?_, ?_⟩
      · rw [List.getElem?_append_right (by simp)]; simpa using h1
      · rw [List.getElem?_append_right (by simp; omega)]; simpa [Nat.add_assoc] using h2
      · rw [List.getElem?_append_right (by simp; omega)]; simpa [Nat.add_assoc] using h3
      · rw [List.getElem?_append_right (by simp; omega)]; simpa [Nat.add_assoc] using h4
theorem M.dnCell {w0 w : World} {B i g n cap : Nat} {l : List As} {L : List Dn} (h : M w0 B w l) (hi : l[i]? = some (.row 109 4 (.slice (some ⟨g, 0, none⟩) n cap) n (dnc L))) {j : Nat} {d : Dn} (hj : L[j]? = some d) (hjn : j < n) :
    w.cell? ⟨g, j * 4, none⟩ = some (.int .i64 d.t) ∧ w.cell? ⟨g, j * 4 + 1, none⟩ = some (.int .i64 d.k) ∧ w.cell? ⟨g, j * 4 + 2, none⟩ = some (.int .i64 d.key) ∧ w.cell? ⟨g, j * 4 + 3, none⟩ = some (.int .i64 d.v) := by
  have hr := (h.get hi).own
  obtain ⟨h1, h2, h3, h4⟩ := dnc_at hj
  refine ⟨?_, ?_, ?_, ?_⟩
  · rw [World.ownsRow.cellAt hr _ (by omega)]; exact h1
  · rw [World.ownsRow.cellAt hr _ (by omega)]; exact h2
  · rw [World.ownsRow.cellAt hr _ (by omega)]; exact h3
  · rw [World.ownsRow.cellAt hr _ (by omega)]; exact h4
set_option maxRecDepth 100000 in
set_option maxHeartbeats 6400000 in
theorem merged_any (lv : Value) (l : List Dn) (W n : Nat) (fr : List As) (w0 w : World) (B : Nat) (hn : l.length = n) (hn1 : n ≤ 100000000) (hW0 : 1 ≤ W) (hW1 : W ≤ 100000000) (hBk : Blk W l)
    (h : M w0 B w (.row 109 4 lv n (dnc l) :: fr)) :
    Calls Tryz.prog 72 #[lv, .int .i64 W] w fun e w' => ∃ ov, e = .returned ov ∧ ∃ out, out.Perm l ∧ Blk (2 * W) out ∧ M w0 B w' (.row 109 4 ov n (dnc out) :: .row 109 4 lv n (dnc l) :: fr) := by
  obtain ⟨j0, hj0, hy0, hy1, hy2⟩ := info_parts infoDone
  obtain ⟨la, lc, rfl⟩ := As.form0 (h.get (i := 0) rfl)
  have A0 := hideIt (M.nil2 (e := 109) (z := 4) (l1 := []) h)
  have HB := hideIt hBk
  have HN := hideIt hn
  have hW0' : (1 : Int) ≤ (W : Int) := by omega
  clear h hBk hn
  go_enter Tryz.func72, Tryz.ntmps72
  go_wp2
  go_loopw [5, 6] (fun ov fm wr => ∃ (q m : Nat) (out : List Dn), fm = .int .i64 (q * (2 * W) : Nat) ∧ q * (2 * W) < n + 2 * W ∧ Hid (out.length = m) ∧ m ≤ n ∧ Hid (Mds l W q out) ∧ Hid (M w0 B wr (.row 109 4 ov m (dnc out) :: .row 109 4 (.slice la n lc) n (dnc l) :: fr))) (fun _ fm _ => n + 2 * W - (intOf fm).toNat)
  case atStart => exact ⟨0, 0, [], by simp, by omega, rfl, by omega, Mds.start l W, A0.out⟩
  case round =>
    clear A0
    obtain ⟨q, m, out, rfl, hq, hol, hm, hD, hM⟩ := hrel
    obtain ⟨oa, oc, rfl⟩ := As.form0 (hM.out.get (i := 0) rfl)
    obtain ⟨F, hF⟩ : ∃ F, q * (2 * W) = F := ⟨_, rfl⟩
    have HF := hideIt hF
    rw [hF] at hq ⊢
    clear hF
    by_cases hlt : F < n
    · have hFn : (F : Int) < (n : Int) := by omega
      obtain ⟨g, lc', hla⟩ := As.form (hM.out.get (i := 1) rfl) (by omega)
      cases hla
      go_wp2
      go_loopw [5, 7, 8] (fun ov vi vj wx => ∃ (i j m2 : Nat) (mm : List Dn), vi = .int .i64 i ∧ vj = .int .i64 j ∧ F ≤ i ∧ i ≤ F + W ∧ F + W ≤ j ∧ j ≤ F + 2 * W ∧ Hid ((out ++ mm).length = m2) ∧ Hid (m2 = m + (i - F) + (j - (F + W))) ∧ m2 ≤ n + 2 * W ∧ Hid (Mrg l W F i j mm) ∧ Hid (M w0 B wx (.row 109 4 ov m2 (dnc (out ++ mm)) :: .row 109 4 (.slice (some ⟨g, 0, none⟩) n lc) n (dnc l) :: fr))) (fun _ vi vj _ => 2 * F + 3 * W - (intOf vi).toNat - (intOf vj).toNat)
      case atStart => exact ⟨F, F + W, m, [], rfl, by go_num, by omega, by omega, by omega, by omega, by unfold Hid; rw [List.append_nil]; exact hol.out, by unfold Hid; omega, by omega, Mrg.start l W F, by unfold Hid; rw [List.append_nil]; exact hM.out⟩
      case round =>
        clear hM hol
        obtain ⟨i, j, m2, mm, rfl, rfl, hi0, hi1, hjj0, hjj1, hol2, hm2, hmx, hG, hN⟩ := hrel
        obtain ⟨na, nc, rfl⟩ := As.form0 (hN.out.get (i := 0) rfl)
        have hi00 : (0 : Int) ≤ (i : Int) := by omega
        have hj00 : (0 : Int) ≤ (j : Int) := by omega
        rcases (show (i < F + W ∧ i < n) ∨ ¬ i < F + W ∨ (i < F + W ∧ ¬ i < n) by omega) with hI | hI | hI
        · have hI1 : (i : Int) < (F : Int) + (W : Int) := by omega
          have hI2 : (i : Int) < (n : Int) := by omega
          obtain ⟨d, hdi⟩ : ∃ d, l[i]? = some d := ⟨_, List.getElem?_eq_getElem (by rw [HN.out]; exact hI.2)⟩
          have HDI := hideIt hdi
          clear hdi
          rcases (show (j < F + 2 * W ∧ j < n) ∨ ¬ j < F + 2 * W ∨ (j < F + 2 * W ∧ ¬ j < n) by omega) with hJ | hJ | hJ
          · have hJ1 : (j : Int) < (F : Int) + 2 * (W : Int) := by omega
            have hJ2 : (j : Int) < (n : Int) := by omega
            obtain ⟨d2, hdj⟩ : ∃ d, l[j]? = some d := ⟨_, List.getElem?_eq_getElem (by rw [HN.out]; exact hJ.2)⟩
            have HDJ := hideIt hdj
            clear hdj
            obtain ⟨y0, y1, y2, y3⟩ := hN.out.dnCell (i := 1) rfl HDI.out (by omega)
            obtain ⟨z0, z1, z2, z3⟩ := hN.out.dnCell (i := 1) rfl HDJ.out (by omega)
            by_cases hle : d.t ≤ d2.t
            · have HR : Hid (Mrg l W F (i + 1) j (mm ++ [d])) := by
                unfold Hid
                have h1 := hG.out
                rw [← HF.out] at h1 ⊢
                exact h1.takeI HB.out (by rw [HF.out]; omega) HDI.out (fun h2 h3 => by rw [tAt_get HDJ.out]; exact hle)
              go_wp2
              go_quiet (fail)
              have hN := hideIt (hN.out.drewN nq)
              go_wp2_with (at_builtin; refine wpList_append_lies _ rfl _ _ 32 rfl B 109 j0 (.agg #[.int .i64 0, .int .i64 0, .int .i64 0, .int .i64 0]) 4 32 Tryz.underlying32 hj0 hy0 hy1 hy2 rfl (by decide) _ m2 (dnc (out ++ mm)) rfl (World.ownsRow.alloc (hN.out.get (i := 0) rfl).own _) ⟨_, 0, none⟩ 1 1 [.int .i64 d.t, .int .i64 d.k, .int .i64 d.key, .int .i64 d.v] rfl rfl (World.news_of_block (heap_alloc_new _ _)) (by simp [Value.oneCell']) (by omega) (by unfold maxLen; omega) (by omega) (by have := hN.out.sz; simp at this ⊢; omega) _ rfl ?_; intro g1 cap1 w5 hown hgrow hat hlt1; rw [← dnc_snoc, List.append_assoc] at hown; have H1 := hideIt ((hN.out.allocd _).lies (i := 0) rfl hown hgrow hat); clear hown hgrow hat)
              go_roundw
              case rel => exact ⟨i + 1, j, m2 + 1, mm ++ [d], by go_num, rfl, by omega, by omega, by omega, by omega, by unfold Hid; rw [List.length_append, List.length_append, List.length_singleton, ← Nat.add_assoc, ← List.length_append, hol2.out], by have := hm2.out; unfold Hid; omega, by have := hm2.out; omega, HR.out, H1.out⟩
              case measure => simp [intOf]; omega
            · have HR : Hid (Mrg l W F i (j + 1) (mm ++ [d2])) := by
                unfold Hid
                have h1 := hG.out
                rw [← HF.out] at h1 ⊢
                exact h1.takeJ HB.out (by rw [HF.out]; omega) HDJ.out (fun h2 h3 => by rw [tAt_get HDI.out]; omega)
              go_wp2
              go_quiet (fail)
              have hN := hideIt (hN.out.drewN nq)
              go_wp2_with (at_builtin; refine wpList_append_lies _ rfl _ _ 32 rfl B 109 j0 (.agg #[.int .i64 0, .int .i64 0, .int .i64 0, .int .i64 0]) 4 32 Tryz.underlying32 hj0 hy0 hy1 hy2 rfl (by decide) _ m2 (dnc (out ++ mm)) rfl (World.ownsRow.alloc (hN.out.get (i := 0) rfl).own _) ⟨_, 0, none⟩ 1 1 [.int .i64 d2.t, .int .i64 d2.k, .int .i64 d2.key, .int .i64 d2.v] rfl rfl (World.news_of_block (heap_alloc_new _ _)) (by simp [Value.oneCell']) (by omega) (by unfold maxLen; omega) (by omega) (by have := hN.out.sz; simp at this ⊢; omega) _ rfl ?_; intro g1 cap1 w5 hown hgrow hat hlt1; rw [← dnc_snoc, List.append_assoc] at hown; have H1 := hideIt ((hN.out.allocd _).lies (i := 0) rfl hown hgrow hat); clear hown hgrow hat)
              go_roundw
              case rel => exact ⟨i, j + 1, m2 + 1, mm ++ [d2], rfl, by go_num, by omega, by omega, by omega, by omega, by unfold Hid; rw [List.length_append, List.length_append, List.length_singleton, ← Nat.add_assoc, ← List.length_append, hol2.out], by have := hm2.out; unfold Hid; omega, by have := hm2.out; omega, HR.out, H1.out⟩
              case measure => simp [intOf]; omega
          · have hJ1 : ¬ (j : Int) < (F : Int) + 2 * (W : Int) := by omega
            obtain ⟨y0, y1, y2, y3⟩ := hN.out.dnCell (i := 1) rfl HDI.out (by omega)
            have HR : Hid (Mrg l W F (i + 1) j (mm ++ [d])) := by
              unfold Hid
              have h1 := hG.out
              rw [← HF.out] at h1 ⊢
              exact h1.takeI HB.out (by rw [HF.out]; omega) HDI.out (fun h2 h3 => by rw [HF.out] at h2; rw [HN.out] at h3; omega)
            go_wp2_with (at_builtin; refine wpList_append_lies _ rfl _ _ 32 rfl B 109 j0 (.agg #[.int .i64 0, .int .i64 0, .int .i64 0, .int .i64 0]) 4 32 Tryz.underlying32 hj0 hy0 hy1 hy2 rfl (by decide) _ m2 (dnc (out ++ mm)) rfl (World.ownsRow.alloc (hN.out.get (i := 0) rfl).own _) ⟨_, 0, none⟩ 1 1 [.int .i64 d.t, .int .i64 d.k, .int .i64 d.key, .int .i64 d.v] rfl rfl (World.news_of_block (heap_alloc_new _ _)) (by simp [Value.oneCell']) (by omega) (by unfold maxLen; omega) (by omega) (by have := hN.out.sz; simp at this ⊢; omega) _ rfl ?_; intro g1 cap1 w5 hown hgrow hat hlt1; rw [← dnc_snoc, List.append_assoc] at hown; have H1 := hideIt ((hN.out.allocd _).lies (i := 0) rfl hown hgrow hat); clear hown hgrow hat)
            go_roundw
            case rel => exact ⟨i + 1, j, m2 + 1, mm ++ [d], by go_num, rfl, by omega, by omega, by omega, by omega, by unfold Hid; rw [List.length_append, List.length_append, List.length_singleton, ← Nat.add_assoc, ← List.length_append, hol2.out], by have := hm2.out; unfold Hid; omega, by have := hm2.out; omega, HR.out, H1.out⟩
            case measure => simp [intOf]; omega
          · have hJ1 : (j : Int) < (F : Int) + 2 * (W : Int) := by omega
            have hJ2 : ¬ (j : Int) < (n : Int) := by omega
            obtain ⟨y0, y1, y2, y3⟩ := hN.out.dnCell (i := 1) rfl HDI.out (by omega)
            have HR : Hid (Mrg l W F (i + 1) j (mm ++ [d])) := by
              unfold Hid
              have h1 := hG.out
              rw [← HF.out] at h1 ⊢
              exact h1.takeI HB.out (by rw [HF.out]; omega) HDI.out (fun h2 h3 => by rw [HF.out] at h2; rw [HN.out] at h3; omega)
            go_wp2_with (at_builtin; refine wpList_append_lies _ rfl _ _ 32 rfl B 109 j0 (.agg #[.int .i64 0, .int .i64 0, .int .i64 0, .int .i64 0]) 4 32 Tryz.underlying32 hj0 hy0 hy1 hy2 rfl (by decide) _ m2 (dnc (out ++ mm)) rfl (World.ownsRow.alloc (hN.out.get (i := 0) rfl).own _) ⟨_, 0, none⟩ 1 1 [.int .i64 d.t, .int .i64 d.k, .int .i64 d.key, .int .i64 d.v] rfl rfl (World.news_of_block (heap_alloc_new _ _)) (by simp [Value.oneCell']) (by omega) (by unfold maxLen; omega) (by omega) (by have := hN.out.sz; simp at this ⊢; omega) _ rfl ?_; intro g1 cap1 w5 hown hgrow hat hlt1; rw [← dnc_snoc, List.append_assoc] at hown; have H1 := hideIt ((hN.out.allocd _).lies (i := 0) rfl hown hgrow hat); clear hown hgrow hat)
            go_roundw
            case rel => exact ⟨i + 1, j, m2 + 1, mm ++ [d], by go_num, rfl, by omega, by omega, by omega, by omega, by unfold Hid; rw [List.length_append, List.length_append, List.length_singleton, ← Nat.add_assoc, ← List.length_append, hol2.out], by have := hm2.out; unfold Hid; omega, by have := hm2.out; omega, HR.out, H1.out⟩
            case measure => simp [intOf]; omega
        · have hI1 : ¬ (i : Int) < (F : Int) + (W : Int) := by omega
          rcases (show (j < F + 2 * W ∧ j < n) ∨ ¬ j < F + 2 * W ∨ (j < F + 2 * W ∧ ¬ j < n) by omega) with hJ | hJ | hJ
          · have hJ1 : (j : Int) < (F : Int) + 2 * (W : Int) := by omega
            have hJ2 : (j : Int) < (n : Int) := by omega
            obtain ⟨d, hdj⟩ : ∃ d, l[j]? = some d := ⟨_, List.getElem?_eq_getElem (by rw [HN.out]; exact hJ.2)⟩
            have HDJ := hideIt hdj
            clear hdj
            obtain ⟨y0, y1, y2, y3⟩ := hN.out.dnCell (i := 1) rfl HDJ.out (by omega)
            have HR : Hid (Mrg l W F i (j + 1) (mm ++ [d])) := by
              unfold Hid
              have h1 := hG.out
              rw [← HF.out] at h1 ⊢
              exact h1.takeJ HB.out (by rw [HF.out]; omega) HDJ.out (fun h2 h3 => by rw [HF.out] at h2; rw [HN.out] at h3; omega)
            go_wp2_with (at_builtin; refine wpList_append_lies _ rfl _ _ 32 rfl B 109 j0 (.agg #[.int .i64 0, .int .i64 0, .int .i64 0, .int .i64 0]) 4 32 Tryz.underlying32 hj0 hy0 hy1 hy2 rfl (by decide) _ m2 (dnc (out ++ mm)) rfl (World.ownsRow.alloc (hN.out.get (i := 0) rfl).own _) ⟨_, 0, none⟩ 1 1 [.int .i64 d.t, .int .i64 d.k, .int .i64 d.key, .int .i64 d.v] rfl rfl (World.news_of_block (heap_alloc_new _ _)) (by simp [Value.oneCell']) (by omega) (by unfold maxLen; omega) (by omega) (by have := hN.out.sz; simp at this ⊢; omega) _ rfl ?_; intro g1 cap1 w5 hown hgrow hat hlt1; rw [← dnc_snoc, List.append_assoc] at hown; have H1 := hideIt ((hN.out.allocd _).lies (i := 0) rfl hown hgrow hat); clear hown hgrow hat)
            go_roundw
            case rel => exact ⟨i, j + 1, m2 + 1, mm ++ [d], rfl, by go_num, by omega, by omega, by omega, by omega, by unfold Hid; rw [List.length_append, List.length_append, List.length_singleton, ← Nat.add_assoc, ← List.length_append, hol2.out], by have := hm2.out; unfold Hid; omega, by have := hm2.out; omega, HR.out, H1.out⟩
            case measure => simp [intOf]; omega
          · have hJ1 : ¬ (j : Int) < (F : Int) + 2 * (W : Int) := by omega
            have HS : Hid (Mds l W (q + 1) (out ++ mm)) := hD.out.step (by rw [HF.out]; exact hG.out) (by rw [HF.out, HN.out]; exact hlt) (by rw [HF.out, HN.out]; omega) (by rw [HF.out, HN.out]; omega)
            have hml : m2 ≤ n := by
              have h1 := HS.out.pm.length_eq
              rw [hol2.out, List.length_take, HN.out] at h1
              omega
            have e1 : Hid ((q + 1) * (2 * W) = F + 2 * W) := by unfold Hid; rw [Nat.add_mul, Nat.one_mul, HF.out]
            go_wp2
            go_roundw
            case rel => exact ⟨q + 1, m2, out ++ mm, by rw [e1.out]; go_num, by rw [e1.out]; omega, hol2.out, hml, HS.out, hN.out⟩
            case measure => simp [intOf]; omega
          · have hJ1 : (j : Int) < (F : Int) + 2 * (W : Int) := by omega
            have hJ2 : ¬ (j : Int) < (n : Int) := by omega
            have HS : Hid (Mds l W (q + 1) (out ++ mm)) := hD.out.step (by rw [HF.out]; exact hG.out) (by rw [HF.out, HN.out]; exact hlt) (by rw [HF.out, HN.out]; omega) (by rw [HF.out, HN.out]; omega)
            have hml : m2 ≤ n := by
              have h1 := HS.out.pm.length_eq
              rw [hol2.out, List.length_take, HN.out] at h1
              omega
            have e1 : Hid ((q + 1) * (2 * W) = F + 2 * W) := by unfold Hid; rw [Nat.add_mul, Nat.one_mul, HF.out]
            go_wp2
            go_roundw
            case rel => exact ⟨q + 1, m2, out ++ mm, by rw [e1.out]; go_num, by rw [e1.out]; omega, hol2.out, hml, HS.out, hN.out⟩
            case measure => simp [intOf]; omega
        · have hI1 : (i : Int) < (F : Int) + (W : Int) := by omega
          have hI2 : ¬ (i : Int) < (n : Int) := by omega
          rcases (show (j < F + 2 * W ∧ j < n) ∨ ¬ j < F + 2 * W ∨ (j < F + 2 * W ∧ ¬ j < n) by omega) with hJ | hJ | hJ
          · have hJ1 : (j : Int) < (F : Int) + 2 * (W : Int) := by omega
            have hJ2 : (j : Int) < (n : Int) := by omega
            exfalso
            omega
          · have hJ1 : ¬ (j : Int) < (F : Int) + 2 * (W : Int) := by omega
            have HS : Hid (Mds l W (q + 1) (out ++ mm)) := hD.out.step (by rw [HF.out]; exact hG.out) (by rw [HF.out, HN.out]; exact hlt) (by rw [HF.out, HN.out]; omega) (by rw [HF.out, HN.out]; omega)
            have hml : m2 ≤ n := by
              have h1 := HS.out.pm.length_eq
              rw [hol2.out, List.length_take, HN.out] at h1
              omega
            have e1 : Hid ((q + 1) * (2 * W) = F + 2 * W) := by unfold Hid; rw [Nat.add_mul, Nat.one_mul, HF.out]
            go_wp2
            go_roundw
            case rel => exact ⟨q + 1, m2, out ++ mm, by rw [e1.out]; go_num, by rw [e1.out]; omega, hol2.out, hml, HS.out, hN.out⟩
            case measure => simp [intOf]; omega
          · have hJ1 : (j : Int) < (F : Int) + 2 * (W : Int) := by omega
            have hJ2 : ¬ (j : Int) < (n : Int) := by omega
            have HS : Hid (Mds l W (q + 1) (out ++ mm)) := hD.out.step (by rw [HF.out]; exact hG.out) (by rw [HF.out, HN.out]; exact hlt) (by rw [HF.out, HN.out]; omega) (by rw [HF.out, HN.out]; omega)
            have hml : m2 ≤ n := by
              have h1 := HS.out.pm.length_eq
              rw [hol2.out, List.length_take, HN.out] at h1
              omega
            have e1 : Hid ((q + 1) * (2 * W) = F + 2 * W) := by unfold Hid; rw [Nat.add_mul, Nat.one_mul, HF.out]
            go_wp2
            go_roundw
            case rel => exact ⟨q + 1, m2, out ++ mm, by rw [e1.out]; go_num, by rw [e1.out]; omega, hol2.out, hml, HS.out, hN.out⟩
            case measure => simp [intOf]; omega
    · have hFn2 : ¬ (F : Int) < (n : Int) := by omega
      obtain ⟨hp, hb⟩ := hD.out.done (by rw [HN.out, HF.out]; omega)
      have HP := hideIt hp
      have HB2 := hideIt hb
      have hmn : m = n := by rw [← hol.out, ← HN.out]; exact hp.length_eq
      subst hmn
      clear hp hb
      go_wp2
      go_ret
      exact ⟨_, rfl, out, HP.out, HB2.out, hM.out⟩
def tkD (d : Dd) : Option Dn := if (d.k = 2 ∨ d.k = 3) ∧ d.er = 0 then some ⟨d.ts[d.pt.toNat]?.getD 0, d.k, d.key, d.v⟩ else none
def tkL (ds : List Dd) : List Dn := ds.filterMap tkD
def Dd.over (d : Dd) : Prop := d.en = true ∧ ∃ p : Nat, d.pt = (p : Int) ∧ p < d.ts.length ∧ d.ts.length ≤ 100000000
theorem tkL_succ (ds : List Dd) (i : Nat) (d : Dd) (h : ds[i]? = some d) : tkL (ds.take (i + 1)) = tkL (ds.take i) ++ (tkD d).toList := by
  unfold tkL
  rw [List.take_add_one, h, Option.toList_some, List.filterMap_append]
  cases hd : tkD d <;> simp [hd]
theorem M.deed {w0 w : World} {B i : Nat} {x : Wd} {d : Dd} {pre fr : List As} (h : M w0 B w (pre ++ (x.as ++ fr))) (hd : x.ds[i]? = some d) : M w0 B w (d.hd ++ (x.hd ++ (d.tl ++ ((x.ds.take i).flatMap Dd.as ++ ((x.ds.drop (i + 1)).flatMap Dd.as ++ (fr ++ pre)))))) := by
  have h1 := h.perm (l' := (x.as ++ (fr ++ pre))) (by rw [← List.append_assoc]; exact List.perm_append_comm)
  unfold Wd.as at h1
  rw [x.split i d hd] at h1
  exact h1.perm (perm_deed _ _ _ _ _ _)
set_option maxRecDepth 100000 in
set_option maxHeartbeats 6400000 in
theorem took_any (x : Wd) (fr : List As) (w0 w : World) (B : Nat) (hov : ∀ d ∈ x.ds, d.over) (hnd : x.ds.length ≤ 100000000) (h : M w0 B w (x.as ++ fr)) :
    Calls Tryz.prog 49 #[.pointer (some ⟨x.gw, 0, none⟩)] w fun e w' => ∃ ov, e = .returned ov ∧ ∃ out, out.Perm (tkL x.ds) ∧ Srt out ∧ M w0 B w' (.row 109 4 ov out.length (dnc out) :: (x.as ++ fr)) := by
  obtain ⟨j0, hj0, hy0, hy1, hy2⟩ := info_parts infoDone
  obtain ⟨da, dc, hdv⟩ := As.form0 (h.get (i := 2) rfl)
  obtain ⟨n, hn⟩ : ∃ n, x.ds.length = n := ⟨_, rfl⟩
  have HN := hideIt hn
  have HDV := hideIt hdv
  have HOV := hideIt hov
  have A0 := hideIt (M.nil2 (e := 109) (z := 4) (l1 := []) h)
  rw [hn] at hdv hnd
  clear h hov
  go_enter Tryz.func49, Tryz.ntmps49
  go_wp2
  go_loopw [3, 4] (fun ov vi wr => ∃ (i m : Nat), vi = .int .i64 i ∧ i ≤ n ∧ Hid ((tkL (x.ds.take i)).length = m) ∧ m ≤ i ∧ Hid (M w0 B wr (.row 109 4 ov m (dnc (tkL (x.ds.take i))) :: (x.as ++ fr)))) (fun _ vi _ => n - (intOf vi).toNat)
  case atStart => exact ⟨0, 0, rfl, by omega, rfl, by omega, A0.out⟩
  case round =>
    clear A0
    obtain ⟨i, m, rfl, hi, hml, hm, hM⟩ := hrel
    obtain ⟨oa, oc, rfl⟩ := As.form0 (hM.out.get (i := 0) rfl)
    have g3 := hM.out.cell (i := 1) rfl 3 (.slice da n dc) (by rw [← hdv]; rfl)
    have hi0 : (0 : Int) ≤ (i : Int) := by omega
    by_cases hlt : i < n
    · have hin : (i : Int) < (n : Int) := by omega
      obtain ⟨d, hd⟩ : ∃ d, x.ds[i]? = some d := ⟨_, List.getElem?_eq_getElem (by rw [HN.out]; exact hlt)⟩
      obtain ⟨gg, cc, hda⟩ := As.form (hM.out.get (i := 3) rfl) (show 0 < x.ds.length by rw [HN.out]; omega)
      have hda2 : da = some ⟨gg, 0, none⟩ := by rw [hdv] at hda; injection hda
      subst hda2
      have R := hM.out.get (i := 3) rfl
      rw [hdv, HN.out] at R
      have dp := World.ownsRow.cellAt R.own i (by omega)
      rw [List.getElem?_map, hd] at dp
      have dp' : wr.cell? ⟨gg, i, none⟩ = some (.pointer (some ⟨d.gd, 0, none⟩)) := dp
      have D := M.deed (pre := [_]) hM.out hd
      obtain ⟨hen, p, hpt, hp1, hp2⟩ := HOV.out d (List.mem_of_getElem? hd)
      have e0 := D.cell (i := 0) rfl 0 (.int .i64 d.k) rfl
      have e1 := D.cell (i := 0) rfl 1 (.int .i64 d.key) rfl
      have e2 := D.cell (i := 0) rfl 2 (.int .i64 d.v) rfl
      have e4 := D.cell (i := 0) rfl 4 d.tm rfl
      have e7 := D.cell (i := 0) rfl 7 (.bool d.en) rfl
      have e8 := D.cell (i := 0) rfl 8 (.int .i64 d.er) rfl
      have e11 := D.cell (i := 0) rfl 11 (.int .i64 d.pt) rfl
      have RT := owns_rd (D.get (i := 2) rfl).own
      have CP := hideIt (point_yes d.gd d.tm d.ts p wr e4 RT hp1)
      have TS := hideIt (tkL_succ x.ds i d hd)
      obtain ⟨tt, htt⟩ : ∃ y, d.ts[p]?.getD 0 = y := ⟨_, rfl⟩
      have HTK : Hid (tkD d = if (d.k = 2 ∨ d.k = 3) ∧ d.er = 0 then some ⟨tt, d.k, d.key, d.v⟩ else none) := by
        unfold Hid tkD; rw [hpt, Int.toNat_natCast, htt]
      rw [htt] at CP
      rw [hen] at e7
      rw [hpt] at e11
      obtain ⟨gd, hgd⟩ : ∃ y, d.gd = y := ⟨_, rfl⟩
      obtain ⟨dk, hdk⟩ : ∃ y, d.k = y := ⟨_, rfl⟩
      obtain ⟨dkey, hdkey⟩ : ∃ y, d.key = y := ⟨_, rfl⟩
      obtain ⟨dv, hdvv⟩ : ∃ y, d.v = y := ⟨_, rfl⟩
      obtain ⟨er, her⟩ : ∃ y, d.er = y := ⟨_, rfl⟩
      rw [hgd] at dp' CP e0 e1 e2 e7 e8 e11
      rw [hdk] at e0 HTK
      rw [hdkey] at e1 HTK
      rw [hdvv] at e2 HTK
      rw [her] at e8 HTK
      have hlg : gd < wr.heap.size := lt_of_cell e0
      clear dp R D RT hen hpt hp1 hp2 e4 hda hgd hdk hdkey hdvv her htt hd
      go_wp2_with fail
      refine CP.out.mono ?_
      rintro e w1 ⟨rfl, hb⟩
      have hN := hideIt (hM.out.below hb)
      have d0 := cell_below hb _ _ e0
      have d1 := cell_below hb _ _ e1
      have d2 := cell_below hb _ _ e2
      have d7 := cell_below hb _ _ e7
      have d8 := cell_below hb _ _ e8
      have hlg1 : gd < w1.heap.size := lt_of_cell d0
      clear CP hM e0 e1 e2 e7 e8 e11 dp' g3 hb hlg
      rcases (show dk = 2 ∨ dk = 3 ∨ (dk ≠ 2 ∧ dk ≠ 3) by omega) with hk | hk | hk
      · subst hk
        by_cases her : er = 0
        · have heb : (er == 0) = true := by simp [her]
          have HT1 : Hid (dnc (tkL (x.ds.take (i + 1))) = dnc (tkL (x.ds.take i)) ++ [.int .i64 tt, .int .i64 2, .int .i64 dkey, .int .i64 dv]) := by
            unfold Hid; rw [TS.out, HTK.out, if_pos ⟨by omega, her⟩, Option.toList_some, dnc_snoc]
          have HT2 : Hid ((tkL (x.ds.take (i + 1))).length = m + 1) := by
            unfold Hid; rw [TS.out, HTK.out, if_pos ⟨by omega, her⟩, Option.toList_some, List.length_append, hml.out]; rfl
          clear her
          go_wp2_with (at_builtin; refine wpList_append_lies _ rfl _ _ 32 rfl B 109 j0 (.agg #[.int .i64 0, .int .i64 0, .int .i64 0, .int .i64 0]) 4 32 Tryz.underlying32 hj0 hy0 hy1 hy2 rfl (by decide) _ m (dnc (tkL (x.ds.take i))) rfl (World.ownsRow.alloc (hN.out.get (i := 0) rfl).own _) ⟨_, 0, none⟩ 1 1 [.int .i64 tt, .int .i64 2, .int .i64 dkey, .int .i64 dv] rfl rfl (World.news_of_block (heap_alloc_new _ _)) (by simp [Value.oneCell']) (by omega) (by unfold maxLen; omega) (by omega) (by have := hN.out.sz; simp at this ⊢; omega) _ rfl ?_; intro g1 cap1 w5 hown hgrow hat hlt1; rw [← HT1.out] at hown; have H1 := hideIt ((hN.out.allocd _).lies (i := 0) rfl hown hgrow hat); clear hown hgrow hat)
          go_roundw
          case rel => exact ⟨i + 1, m + 1, by go_num, by omega, HT2.out, by omega, H1.out⟩
          case measure => simp [intOf]; omega
        · have heb : (er == 0) = false := by simp [her]
          have HT1 : Hid (tkL (x.ds.take (i + 1)) = tkL (x.ds.take i)) := by
            unfold Hid; rw [TS.out, HTK.out, if_neg (fun h => her h.2), Option.toList_none, List.append_nil]
          clear her
          go_wp2
          go_roundw
          case rel => exact ⟨i + 1, m, by go_num, by omega, by unfold Hid; rw [HT1.out]; exact hml.out, by omega, by unfold Hid; rw [HT1.out]; exact hN.out⟩
          case measure => simp [intOf]; omega
      · subst hk
        by_cases her : er = 0
        · have heb : (er == 0) = true := by simp [her]
          have HT1 : Hid (dnc (tkL (x.ds.take (i + 1))) = dnc (tkL (x.ds.take i)) ++ [.int .i64 tt, .int .i64 3, .int .i64 dkey, .int .i64 dv]) := by
            unfold Hid; rw [TS.out, HTK.out, if_pos ⟨by omega, her⟩, Option.toList_some, dnc_snoc]
          have HT2 : Hid ((tkL (x.ds.take (i + 1))).length = m + 1) := by
            unfold Hid; rw [TS.out, HTK.out, if_pos ⟨by omega, her⟩, Option.toList_some, List.length_append, hml.out]; rfl
          clear her
          go_wp2_with (at_builtin; refine wpList_append_lies _ rfl _ _ 32 rfl B 109 j0 (.agg #[.int .i64 0, .int .i64 0, .int .i64 0, .int .i64 0]) 4 32 Tryz.underlying32 hj0 hy0 hy1 hy2 rfl (by decide) _ m (dnc (tkL (x.ds.take i))) rfl (World.ownsRow.alloc (hN.out.get (i := 0) rfl).own _) ⟨_, 0, none⟩ 1 1 [.int .i64 tt, .int .i64 3, .int .i64 dkey, .int .i64 dv] rfl rfl (World.news_of_block (heap_alloc_new _ _)) (by simp [Value.oneCell']) (by omega) (by unfold maxLen; omega) (by omega) (by have := hN.out.sz; simp at this ⊢; omega) _ rfl ?_; intro g1 cap1 w5 hown hgrow hat hlt1; rw [← HT1.out] at hown; have H1 := hideIt ((hN.out.allocd _).lies (i := 0) rfl hown hgrow hat); clear hown hgrow hat)
          go_roundw
          case rel => exact ⟨i + 1, m + 1, by go_num, by omega, HT2.out, by omega, H1.out⟩
          case measure => simp [intOf]; omega
        · have heb : (er == 0) = false := by simp [her]
          have HT1 : Hid (tkL (x.ds.take (i + 1)) = tkL (x.ds.take i)) := by
            unfold Hid; rw [TS.out, HTK.out, if_neg (fun h => her h.2), Option.toList_none, List.append_nil]
          clear her
          go_wp2
          go_roundw
          case rel => exact ⟨i + 1, m, by go_num, by omega, by unfold Hid; rw [HT1.out]; exact hml.out, by omega, by unfold Hid; rw [HT1.out]; exact hN.out⟩
          case measure => simp [intOf]; omega
      · have hk2 : (dk == 2) = false := by simp [hk.1]
        have hk3 : (dk == 3) = false := by simp [hk.2]
        have HT1 : Hid (tkL (x.ds.take (i + 1)) = tkL (x.ds.take i)) := by
          unfold Hid; rw [TS.out, HTK.out, if_neg (fun h => by have := h.1; omega), Option.toList_none, List.append_nil]
        clear hk
        go_wp2
        go_roundw
        case rel => exact ⟨i + 1, m, by go_num, by omega, by unfold Hid; rw [HT1.out]; exact hml.out, by omega, by unfold Hid; rw [HT1.out]; exact hN.out⟩
        case measure => simp [intOf]; omega
    · obtain rfl : i = n := by omega
      have hT : Hid (tkL (x.ds.take i) = tkL x.ds) := by unfold Hid; rw [List.take_of_length_le (by rw [HN.out]; omega)]
      rw [hT.out] at hM hml
      go_wp2
      clear g3
      go_loopw [3, 9] (fun lv vw wr => ∃ (W : Nat) (out : List Dn), vw = .int .i64 W ∧ 1 ≤ W ∧ W ≤ 2 * i + 1 ∧ Hid (out.Perm (tkL x.ds)) ∧ Hid (Blk W out) ∧ Hid (M w0 B wr (.row 109 4 lv m (dnc out) :: (x.as ++ fr)))) (fun _ vw _ => 2 * i + 2 - (intOf vw).toNat)
      case atStart => exact ⟨1, tkL x.ds, rfl, by omega, by omega, List.Perm.refl _, blk_one _, hM.out⟩
      case round =>
        clear hM
        obtain ⟨W, out, rfl, hW1, hW2, hp, hbk, hM⟩ := hrel
        obtain ⟨oa2, oc2, rfl⟩ := As.form0 (hM.out.get (i := 0) rfl)
        have hol : Hid (out.length = m) := by unfold Hid; rw [hp.out.length_eq]; exact hml.out
        by_cases hlt2 : W < m
        · have hWm : (W : Int) < (m : Int) := by omega
          have CM := hideIt (merged_any (.slice oa2 m oc2) out W m (x.as ++ fr) w0 _ B hol.out (by omega) hW1 (by omega) hbk.out hM.out)
          clear hM
          go_wp2_with fail
          refine CM.out.mono ?_
          rintro e w1 ⟨ov, rfl, out2, hp2, hb2, hM2⟩
          have HP2 := hideIt (hp2.trans hp.out)
          have HB2 := hideIt hb2
          have HM2 := hideIt (hM2.sub (List.Sublist.cons_cons _ (List.sublist_cons_self _ _)))
          clear CM hp2 hb2 hM2
          go_wp2
          go_roundw
          case rel => exact ⟨2 * W, out2, by go_num, by omega, by omega, HP2.out, HB2.out, HM2.out⟩
          case measure => simp [intOf]; omega
        · have hWm : ¬ (W : Int) < (m : Int) := by omega
          have HS := hideIt (blk_all hbk.out (by rw [hol.out]; omega))
          have hM3 : Hid (M w0 B wr (.row 109 4 (.slice oa2 m oc2) out.length (dnc out) :: (x.as ++ fr))) := by unfold Hid; rw [hol.out]; exact hM.out
          clear hM
          go_wp2
          go_ret
          exact ⟨_, rfl, out, hp.out, HS.out, hM3.out⟩
def pvK : Nat → Int | 0 => 1 | 1 => 2 | 2 => 1 | 3 => 4 | 4 => 3 | _ => 1
def pvY : Nat → Int | 3 => 1 | _ => 5
def pvV : Nat → Int | 1 => 50 | 3 => 9 | _ => 0
def pvW : Nat → Int | 2 => 50 | 3 => 1 | 4 => 50 | _ => 0
structure Pvd (Pv Pb : Nat → Wd → Prop) (gw : Nat) (w0 : World) (B : Nat) : Prop where
  pg : ∀ i x, Pv i x → x.gw = gw
  pb : ∀ i x, Pb i x → x.gw = gw
  bg : ∀ i x W (fr : List As), i < 6 → Pv i x → M w0 B W (x.as ++ fr) → Calls Tryz.prog 10 #[.pointer (some ⟨gw, 0, none⟩), .int .i64 0, .agg #[.int .i64 (pvK i), .int .i64 (pvY i), .int .i64 (pvV i)]] W fun e w' => (∃ u, e = .returned u) ∧ ∃ x', Pb i x' ∧ M w0 B w' (x'.as ++ fr)
  al : ∀ i x W (fr : List As), i < 6 → Pb i x → M w0 B W (x.as ++ fr) → Calls Tryz.prog 11 #[.pointer (some ⟨gw, 0, none⟩), .int .i64 0] W fun e w' => (∃ u, e = .returned u) ∧ ∃ x' n d, Pv (i + 1) x' ∧ x'.ds.length = n + 1 ∧ n ≤ 100 ∧ x'.ds[n]? = some d ∧ d.er = 0 ∧ d.va = pvW i ∧ d.fd = decide (0 < pvW i) ∧ M w0 B w' (x'.as ++ fr)
set_option maxRecDepth 100000 in
set_option maxHeartbeats 6400000 in
theorem proved_gen (Pv Pb : Nat → Wd → Prop) (w : World) (m : Pvd Pv Pb w.heap.size w w.heap.size) (h0 : ∀ tg tc ug uc vg vc bg bc, Pv 0 (Wd.first w.heap.size tg tc ug uc vg vc bg bc)) :
    Calls Tryz.prog 14 #[] w fun e w' => e = .returned (.bool true) ∧ Below w.heap.size w w' := by
  have HMC := hideIt m
  have H0 := hideIt h0
  clear m h0
  obtain ⟨gw, hgw⟩ : ∃ g, w.heap.size = g := ⟨_, rfl⟩
  have HGW := hideIt hgw
  rw [hgw] at HMC H0 ⊢
  clear hgw
  go_enter Tryz.func14, Tryz.ntmps14
  go_wp2_with fail
  refine (fresh_wd w).mono ?_
  rintro e w1 ⟨rfl, tg, tc, ug, uc, vg, vc, bg, bc, hM⟩
  rw [HGW.out] at hM ⊢
  have A0 := hideIt hM
  clear hM
  have A1 := hideIt (A0.out.alloc #[.int .i64 1, .int .i64 5, .int .i64 0, .int .i64 2, .int .i64 5, .int .i64 50, .int .i64 1, .int .i64 5, .int .i64 0, .int .i64 4, .int .i64 1, .int .i64 9, .int .i64 3, .int .i64 5, .int .i64 0, .int .i64 1, .int .i64 5, .int .i64 0] 36)
  have A2 := hideIt (A1.out.alloc #[.int .i64 0, .int .i64 0, .int .i64 50, .int .i64 1, .int .i64 50, .int .i64 0] 3)
  clear A0 A1
  go_wp2
  rw [alloc_size] at A2
  obtain ⟨ga, hga⟩ : ∃ g, w1.heap.size = g := ⟨_, rfl⟩
  rw [hga] at A2 ⊢
  obtain ⟨FB, hFB⟩ : ∃ F, F = [As.blk (ga + 1) #[.int .i64 0, .int .i64 0, .int .i64 50, .int .i64 1, .int .i64 50, .int .i64 0] 3, As.blk ga #[.int .i64 1, .int .i64 5, .int .i64 0, .int .i64 2, .int .i64 5, .int .i64 50, .int .i64 1, .int .i64 5, .int .i64 0, .int .i64 4, .int .i64 1, .int .i64 9, .int .i64 3, .int .i64 5, .int .i64 0, .int .i64 1, .int .i64 5, .int .i64 0] 36] := ⟨_, rfl⟩
  have HOC : Hid (∀ (x : Wd) W, M w gw W (x.as ++ FB) → ∀ i, i < 6 → (W.cell? ⟨ga, i * 3, none⟩ = some (.int .i64 (pvK i)) ∧ W.cell? ⟨ga, i * 3 + 1, none⟩ = some (.int .i64 (pvY i)) ∧ W.cell? ⟨ga, i * 3 + 2, none⟩ = some (.int .i64 (pvV i)) ∧ W.cell? ⟨ga + 1, i, none⟩ = some (.int .i64 (pvW i)))) := by
    intro x W hM i hi
    have h1 : As.blk ga #[.int .i64 1, .int .i64 5, .int .i64 0, .int .i64 2, .int .i64 5, .int .i64 50, .int .i64 1, .int .i64 5, .int .i64 0, .int .i64 4, .int .i64 1, .int .i64 9, .int .i64 3, .int .i64 5, .int .i64 0, .int .i64 1, .int .i64 5, .int .i64 0] 36 ∈ x.as ++ FB := by rw [hFB]; simp
    have h2 : As.blk (ga + 1) #[.int .i64 0, .int .i64 0, .int .i64 50, .int .i64 1, .int .i64 50, .int .i64 0] 3 ∈ x.as ++ FB := by rw [hFB]; simp
    have hi6 : i = 0 ∨ i = 1 ∨ i = 2 ∨ i = 3 ∨ i = 4 ∨ i = 5 := by omega
    rcases hi6 with rfl | rfl | rfl | rfl | rfl | rfl <;> exact ⟨hM.cellIn h1 _ _ rfl, hM.cellIn h1 _ _ rfl, hM.cellIn h1 _ _ rfl, hM.cellIn h2 _ _ rfl⟩
  have A3 := hideIt (M.perm (l' := (Wd.first gw tg tc ug uc vg vc bg bc).as ++ FB) A2.out (by rw [hFB, List.append_nil]; exact List.perm_append_comm))
  clear A2 hFB hga
  go_loopw [4] (fun y wr => ∃ (i : Nat) (x : Wd), y = .int .i64 i ∧ i ≤ 6 ∧ Hid (Pv i x) ∧ Hid (M w gw wr (x.as ++ FB))) (fun i _ => 6 - (intOf i).toNat)
  case atStart => exact ⟨0, _, rfl, by omega, H0.out tg tc ug uc vg vc bg bc, A3.out⟩
  case round =>
    clear A3
    obtain ⟨i, x, rfl, hi, hP, hM⟩ := hrel
    have hg : Hid (x.gw = gw) := HMC.out.pg i x hP.out
    by_cases hlt : i < 6
    · have g14 := hM.out.cell (i := 0) rfl 14 (.bool false) rfl
      rw [hg.out] at g14
      obtain ⟨o0, o1, o2, -⟩ := HOC.out x wr hM.out i hlt
      have hi1 : (i : Int) < 6 := by omega
      have hi0 : (0 : Int) ≤ (i : Int) := by omega
      have CB := hideIt (HMC.out.bg i x wr FB hlt hP.out hM.out)
      clear hM hP hg
      go_wp2_with fail
      refine CB.out.mono ?_
      rintro e w2 ⟨⟨u, rfl⟩, x2, hP2, hM2⟩
      have HM2 := hideIt hM2
      have hg2 : Hid (x2.gw = gw) := HMC.out.pb i x2 hP2
      have g14 := hM2.cell (i := 0) rfl 14 (.bool false) rfl
      rw [hg2.out] at g14
      have CA := hideIt (HMC.out.al i x2 w2 FB hlt hP2 hM2)
      clear hM2 hP2 CB o0 o1 o2 hg2
      go_wp2_with fail
      refine CA.out.mono ?_
      rintro e w3 ⟨⟨u, rfl⟩, x3, n, d, hP3, hn, hn1, hd, her, hva, hfd, hM3⟩
      have HM3 := hideIt hM3
      have HP3 := hideIt hP3
      have hg3 : Hid (x3.gw = gw) := HMC.out.pg _ x3 hP3
      clear CA HM2
      have g14 := hM3.cell (i := 0) rfl 14 (.bool false) rfl
      obtain ⟨dg, dc, hdv⟩ := As.form (hM3.get (i := 2) rfl) (by omega)
      have g3 := hM3.cell (i := 0) rfl 3 x3.dv rfl
      rw [hdv, hn] at g3
      have hrow := hM3.get (i := 2) rfl
      have hdp : (x3.ds.map Dd.ptr)[n]? = some (.pointer (some ⟨d.gd, 0, none⟩)) := by rw [List.getElem?_map, hd]; rfl
      rw [hdv] at hrow
      have c0 := World.ownsRow.cellAt hrow.own n (by rw [hn]; omega)
      rw [hdp] at c0
      rw [hg3.out] at g14 g3
      have D := M.deed (pre := []) hM3 hd
      have d8 := D.cell (i := 0) rfl 8 (.int .i64 d.er) rfl
      have d9 := D.cell (i := 0) rfl 9 (.bool d.fd) rfl
      have d10 := D.cell (i := 0) rfl 10 (.int .i64 d.va) rfl
      have d11 := D.cell (i := 0) rfl 11 (.int .i64 d.pt) rfl
      have d12 := D.cell (i := 0) rfl 12 d.kv rfl
      have d13 := D.cell (i := 0) rfl 13 d.vv rfl
      have d14 := D.cell (i := 0) rfl 14 d.cv rfl
      obtain ⟨ak, ck, hkv⟩ := As.form0 (D.get (i := 9) rfl)
      obtain ⟨av, cv, hvv⟩ := As.form0 (D.get (i := 10) rfl)
      obtain ⟨ac, cc, hcv⟩ := As.form0 (D.get (i := 11) rfl)
      obtain ⟨-, -, -, o3⟩ := HOC.out x3 w3 hM3 i hlt
      rw [hkv] at d12
      rw [hvv] at d13
      rw [hcv] at d14
      rw [her] at d8
      rw [hva] at d10
      rw [hfd] at d9
      have hsz : d.gd < w3.heap.size := lt_of_cell d8
      obtain ⟨gd, hgd⟩ : ∃ y, d.gd = y := ⟨_, rfl⟩
      obtain ⟨pt, hpt⟩ : ∃ y, d.pt = y := ⟨_, rfl⟩
      obtain ⟨pw, hpw⟩ : ∃ y, pvW i = y := ⟨_, rfl⟩
      rw [hgd] at c0 d8 d9 d10 d11 d12 d13 d14 hsz
      rw [hpt] at d11
      rw [hpw] at d9 d10 o3
      generalize d.ks.length = nk at d12
      generalize d.vs.length = nv at d13
      generalize d.cs.length = nc at d14
      have hn0 : (0 : Int) ≤ (n : Int) := by omega
      have hgw3 : gw < w3.heap.size := lt_of_cell g3
      have hdg3 : dg < w3.heap.size := lt_of_cell c0
      have hga3 : ga + 1 < w3.heap.size := lt_of_cell o3
      have A5 := hideIt (hM3.alloc #[.int .i64 0, .bool (decide (0 < pw)), .int .i64 pw, .int .i64 pt, .slice ak nk ck, .slice av nv cv, .slice ac nc cc] 46)
      have hpw := hideIt hpw
      clear hva hfd her hM3 hP3 hd D hrow hdp hgd hpt hkv hvv hcv hdv HM3
      go_wp2
      go_region
      have A6 := hideIt A5.out.drew
      obtain ⟨gq, hgq⟩ : ∃ g, w3.heap.size = g := ⟨_, rfl⟩
      rw [hgq] at A6 ⊢
      generalize World.drew _ = w4 at A6 ⊢
      clear A5 hgq hsz hgw3 hdg3 hga3 d8 d9 d10 d11 d12 d13 d14 c0 g3 g14 o3
      have a0 := A6.out.cell (i := 0) rfl 0 (.int .i64 0) rfl
      have a1 := A6.out.cell (i := 0) rfl 1 (.bool (decide (0 < pw))) rfl
      have a2 := A6.out.cell (i := 0) rfl 2 (.int .i64 pw) rfl
      have A7 := hideIt (A6.out.sub (List.sublist_cons_self _ _))
      have g14 := A7.out.cell (i := 0) rfl 14 (.bool false) rfl
      rw [hg3.out] at g14
      obtain ⟨-, -, -, o3⟩ := HOC.out x3 w4 A7.out i hlt
      rw [hpw.out] at o3
      clear A6
      go_wp2
      go_quiet (fail)
      go_wp2
      go_roundw
      case rel => exact ⟨i + 1, x3, by go_num, by omega, HP3.out, A7.out.drewN _⟩
      case measure => simp [intOf]; omega
    · obtain rfl : i = 6 := by omega
      have HB := hideIt hM.out.bl
      clear hM
      go_wp2
      go_ret
      exact ⟨rfl, HB.out⟩
theorem tdo_len (kd key v : Int) (K V : List Int) (h : K.length = V.length) : (tdo kd key v K V).1.length = (tdo kd key v K V).2.length ∧ (tdo kd key v K V).1.length ≤ K.length + 1 := by
  unfold tdo
  split
  · split
    · exact ⟨by simp [h], by simp⟩
    · split
      · exact ⟨by simp [h], by simp; omega⟩
      · exact ⟨h, by simp⟩
  · split
    · exact ⟨by simp [h], by simp⟩
    · exact ⟨h, by simp⟩
theorem do_any (gt n : Nat) (kv vv : Value) (K V : List Int) (kd key v : Int) (fr : List As) (w0 w : World) (B : Nat) (hn : n < 1000000000) (hK : K.length = n) (hV : V.length = n)
    (h : M w0 B w (.blk gt #[kv, vv] 55 :: .row 3 1 kv n (ints K) :: .row 3 1 vv n (ints V) :: fr)) :
    Calls Tryz.prog 17 #[.pointer (some ⟨gt, 0, none⟩), .agg #[.int .i64 kd, .int .i64 key, .int .i64 v]] w fun e w' => (∃ u, e = .returned u) ∧ ∃ kv' vv',
      M w0 B w' (.blk gt #[kv', vv'] 55 :: .row 3 1 kv' (tdo kd key v K V).1.length (ints (tdo kd key v K V).1) :: .row 3 1 vv' (tdo kd key v K V).1.length (ints (tdo kd key v K V).2) :: fr) := by
  by_cases hm : key ∈ K
  · have hx := List.idxOf_lt_length_of_mem hm
    have h1 : K[K.idxOf key]? = some key := by rw [List.getElem?_eq_getElem hx, List.getElem_idxOf hx]
    have h2 : ∀ j, j < K.idxOf key → K[j]?.getD 0 ≠ key := by
      intro j hj he
      have hjl : j < K.length := by omega
      rw [List.getElem?_eq_getElem hjl] at he
      have : K.idxOf key ≤ j := by
        rw [← he]
        show K.idxOf K[j] ≤ j
        rcases Nat.lt_or_ge j (K.idxOf K[j]) with h | h
        · have := List.not_of_lt_findIdx (p := (· == K[j])) (xs := K) (i := j) h
          simp at this
        · exact h
      omega
    by_cases k2 : kd = 2
    · subst k2
      have e : tdo 2 key v K V = (K, V.set (K.idxOf key) v) := by unfold tdo; rw [if_pos hm, if_pos rfl]
      rw [e]
      refine (do_set gt n _ kv vv K V key v fr w0 w B (by omega) hK hV h1 h2 h).mono ?_
      rintro e w' ⟨he, hM⟩
      exact ⟨he, kv, vv, by rw [hK]; exact hM⟩
    · by_cases k3 : kd = 3
      · subst k3
        obtain ⟨m, rfl⟩ : ∃ m, n = m + 1 := ⟨n - 1, by omega⟩
        have e : tdo 3 key v K V = ((K.set (K.idxOf key) (K[m]?.getD 0)).take m, (V.set (K.idxOf key) (V[m]?.getD 0)).take m) := by unfold tdo; rw [if_pos hm, if_neg (by omega), if_pos rfl, hK]; rfl
        rw [e]
        refine (do_drop gt m _ kv vv K V key v fr w0 w B (by omega) hK hV h1 h2 h).mono ?_
        rintro e w' ⟨he, kv', vv', hM⟩
        refine ⟨he, kv', vv', ?_⟩
        rw [show ((K.set (K.idxOf key) (K[m]?.getD 0)).take m).length = m by simp [hK]]
        exact hM
      · have e : tdo kd key v K V = (K, V) := by unfold tdo; rw [if_pos hm, if_neg k2, if_neg k3]
        rw [e]
        refine (do_none gt n kv vv K V kd key v fr w0 w B (by omega) hK k2 (Or.inl k3) h).mono ?_
        rintro e w' ⟨he, hM⟩
        exact ⟨he, kv, vv, by rw [hK]; exact hM⟩
  · by_cases k2 : kd = 2
    · subst k2
      have e : tdo 2 key v K V = (K ++ [key], V ++ [v]) := by unfold tdo; rw [if_neg hm, if_pos rfl]
      rw [e]
      refine (do_add gt n kv vv K V key v fr w0 w B (by omega) hK hV hm h).mono ?_
      rintro e w' ⟨he, kv', vv', hM⟩
      exact ⟨he, kv', vv', by rw [List.length_append, hK]; exact hM⟩
    · have e : tdo kd key v K V = (K, V) := by unfold tdo; rw [if_neg hm, if_neg k2]
      rw [e]
      refine (do_none gt n kv vv K V kd key v fr w0 w B (by omega) hK k2 (Or.inr hm) h).mono ?_
      rintro e w' ⟨he, hM⟩
      exact ⟨he, kv, vv, by rw [hK]; exact hM⟩
def tabO (l : List Dn) : List Int × List Int := l.foldl (fun KV d => tdo d.k d.key d.v KV.1 KV.2) ([], [])
theorem tabO_succ (l : List Dn) (i : Nat) (d : Dn) (h : l[i]? = some d) : tabO (l.take (i + 1)) = tdo d.k d.key d.v (tabO (l.take i)).1 (tabO (l.take i)).2 := by
  unfold tabO
  rw [List.take_add_one, h, Option.toList_some, List.foldl_append]
  rfl
theorem tabO_len (l : List Dn) : ∀ i, (tabO (l.take i)).1.length = (tabO (l.take i)).2.length ∧ (tabO (l.take i)).1.length ≤ i := by
  intro i
  induction i with
  | zero => simp [tabO]
  | succ i ih =>
    rcases Nat.lt_or_ge i l.length with h | h
    · rw [tabO_succ l i _ (List.getElem?_eq_getElem h)]
      have := tdo_len l[i].k l[i].key l[i].v _ _ ih.1
      exact ⟨this.1, by omega⟩
    · rw [List.take_of_length_le (by omega)]
      rw [List.take_of_length_le h] at ih
      exact ⟨ih.1, by omega⟩
def ahead (l : List Dn) (time : Int) : List Dn := l.takeWhile fun d => decide (d.t < time)
theorem ahead_eq (l : List Dn) (time : Int) (i : Nat) (h1 : ∀ j d, j < i → l[j]? = some d → d.t < time) (h2 : ∀ d, l[i]? = some d → ¬ d.t < time) : ahead l time = l.take i := by
  unfold ahead
  induction l generalizing i with
  | nil => simp
  | cons a l ih =>
    cases i with
    | zero =>
      have := h2 a rfl
      simp [this]
    | succ i =>
      have h3 := h1 0 a (by omega) rfl
      rw [List.takeWhile_cons, if_pos (by simpa using h3), List.take_succ_cons, ih i (fun j d hj hd => h1 (j + 1) d (by omega) (by simpa using hd)) (fun d hd => h2 d (by simpa using hd))]
end Go.Proofs.YtajobgmnmbnhiaaGreatDoor.Sap
