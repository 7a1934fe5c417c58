/- WHAT IS PROVED HERE: when all operations have ended, each has answered as a map does that those ahead of it have made; the pieces of a Scan (no program's function is walked). Conditions: none but those named at each theorem. -/
import Derived.Test.YtajobgmnmbnhiaaGreatDoorPt45
import Derived.Test.YtajobgmnmbnhiaaGreatDoorPt47
namespace Go.Proofs.YtajobgmnmbnhiaaGreatDoor.Sap
open Go.RowKit
theorem perm_len {a b : List Int} (ha : a.Nodup) (hb : b.Nodup) (h : ∀ q, q ∈ a ↔ q ∈ b) : a.length = b.length := ((List.perm_ext_iff_of_nodup ha hb).2 h).length_eq
theorem cnt_split (ks : List Int) (a b : Int) (h : a ≤ b) : (ks.filter fun q => decide (q < a)).length + (ks.filter fun q => decide (a ≤ q) && decide (q < b)).length = (ks.filter fun q => decide (q < b)).length := by
  induction ks with
  | nil => rfl
  | cons x r ih =>
    rw [List.filter_cons, List.filter_cons, List.filter_cons]
    by_cases h1 : x < a
    · rw [if_pos (show decide (x < a) = true by simp [h1]), if_neg (show ¬ (decide (a ≤ x) && decide (x < b)) = true by simp; omega), if_pos (show decide (x < b) = true by simp; omega), List.length_cons, List.length_cons]
      omega
    · rw [if_neg (show ¬ decide (x < a) = true by simp; omega)]
      by_cases h2 : x < b
      · rw [if_pos (show (decide (a ≤ x) && decide (x < b)) = true by simp; omega), if_pos (show decide (x < b) = true by simp [h2]), List.length_cons, List.length_cons]
        omega
      · rw [if_neg (show ¬ (decide (a ≤ x) && decide (x < b)) = true by simp; omega), if_neg (show ¬ decide (x < b) = true by simp; omega)]
        exact ih
theorem Inv.pcs {wt : Bool} {gw : Nat} {x : Wd} {t : Tre} {S : Nat → St} {o : List Dn} (h : Inv wt gw x t S o) (hid : ∀ c, c < 64 → x.bs[c]? = some (-1)) : ∀ d ∈ x.ds, d.k = 4 → PcsOk x d := by
  intro d hd hk
  obtain ⟨i0, hi0⟩ := List.mem_iff_getElem?.1 hd
  obtain ⟨he, hD⟩ := h.allEnded hid i0 d hi0
  have hE := hD.ed he
  rcases hE.an with ⟨-, bel, pts, A⟩ | ⟨h4, -⟩
  case inr => exact absurd hk h4
  have hop := opR_parts hD.op
  have C := A.sc
  obtain ⟨m, hm⟩ : ∃ m, bel.length = m + 1 := ⟨bel.length - 1, by have := A.b0; omega⟩
  have b64 := A.b64
  have hbl := C.bl
  have h1b := C.up bel.length 0 (by omega)
  have h0b := (C.bp m (by omega))
  have hkm := C.up m 0 (by omega)
  rw [Nat.zero_add] at h1b hkm
  have hf0 : fromV bel d.key 0 = d.key := rfl
  refine ⟨m, bel, pts, fromV bel d.key (m + 1), fun i => (d.ks.filter fun q => decide (q < fromV bel d.key i)).length, ⟨A.er, A.fd, A.va, A.cs, hm, by omega, by omega, C.kl, ?_, ?_, rfl, A.pt, fun i hi => ?_, fun i hi => ?_, ⟨by omega, h0b.2⟩, A.k12, ?_, by omega, by omega, by omega⟩⟩
  · have : d.ks.filter (fun q => decide (q < fromV bel d.key 0)) = [] := List.filter_eq_nil_iff.2 fun q hq => by have := (C.inn q hq).1; rw [hf0]; simp; omega
    show (d.ks.filter fun q => decide (q < fromV bel d.key 0)).length = 0
    rw [this]; rfl
  · have : d.ks.filter (fun q => decide (q < fromV bel d.key (m + 1))) = d.ks := List.filter_eq_self.2 fun q hq => by have := (C.inn q hq).2; rw [hm] at this; simpa using this
    show (d.ks.filter fun q => decide (q < fromV bel d.key (m + 1))).length = _
    rw [this]
  · have hib : i < bel.length := by omega
    have hip : i < pts.length := by omega
    have hpm : pts[i] ∈ pts := List.getElem_mem hip
    have hpb := C.pb _ hpm
    have e0 : pts[i]?.getD 0 = pts[i] := by rw [List.getElem?_eq_getElem hip]; rfl
    refine ⟨pts[i].toNat, fromV bel d.key (i + 1), (d.ks.filter fun q => decide (fromV bel d.key i ≤ q) && decide (q < fromV bel d.key (i + 1))).length, fun o' hp hs => ?_⟩
    rw [h.uniq hid hp hs]
    have hpc := fun q u => C.pc i q u hib
    rw [e0] at hpc
    obtain ⟨a1, a2, a3⟩ := tabO_look (ahead o (d.ts[pts[i].toNat]?.getD 0)) (ahead_ok h.ok _)
    have hbp := C.bp i hib
    have hcs := cnt_split d.ks (fromV bel d.key i) (fromV bel d.key (i + 1)) (by omega)
    refine ⟨by rw [List.getElem?_eq_getElem hip]; congr 1; omega, by omega, ?_, ?_, hbp.1, hbp.2, ?_, hcs, List.length_filter_le _ _, fun j hj => ?_⟩
    · show bel[i]? = some (bel[i]?.getD 0)
      rw [List.getElem?_eq_getElem hib]; rfl
    · have hmem : d.ts[pts[i].toNat]?.getD 0 ∈ d.ts := ts_mem hpb
      cases i with
      | zero => show (-1 : Int) < _; have := (hD.lt _ hmem).1; omega
      | succ i =>
        show d.ts[(pts[i]?.getD 0).toNat]?.getD 0 < d.ts[pts[i + 1].toNat]?.getD 0
        have hi2 : i < pts.length := by omega
        rw [List.getElem?_eq_getElem hi2]
        have hpb2 := C.pb _ (List.getElem_mem hi2)
        have hlt := List.pairwise_iff_getElem.1 C.pp i (i + 1) hi2 hip (by omega)
        show d.ts[pts[i].toNat]?.getD 0 < _
        rw [List.getElem?_eq_getElem (show pts[i].toNat < d.ts.length by omega), List.getElem?_eq_getElem (show pts[i + 1].toNat < d.ts.length by omega)]
        exact List.pairwise_iff_getElem.1 hD.tp _ _ (by omega) (by omega) (by omega)
    · unfold cntW
      rw [List.take_length]
      have hnd : d.ks.Nodup := C.asc.imp fun h e => by omega
      refine perm_len (a1.filter _) (hnd.filter _) fun q => ?_
      rw [List.mem_filter, List.mem_filter]
      simp only [Bool.and_eq_true, decide_eq_true_eq]
      have hnz : (((tabO (ahead o (d.ts[pts[i].toNat]?.getD 0))).1.zip (tabO (ahead o (d.ts[pts[i].toNat]?.getD 0))).2).map Prod.fst).Nodup := by rw [fst_zip a2]; exact a1
      constructor
      · rintro ⟨h1, h2, h3⟩
        obtain ⟨u, hu⟩ : ∃ u, (q, u) ∈ (tabO (ahead o (d.ts[pts[i].toNat]?.getD 0))).1.zip (tabO (ahead o (d.ts[pts[i].toNat]?.getD 0))).2 := by
          rw [← fst_zip a2] at h1
          obtain ⟨y, hy, rfl⟩ := List.mem_map.1 h1
          exact ⟨y.2, hy⟩
        have := look_mem hnz hu
        rw [a3] at this
        exact ⟨(List.of_mem_zip ((hpc q u h2 h3).2 this)).1, h2, h3⟩
      · rintro ⟨h1, h2, h3⟩
        rw [← fst_zip C.kl] at h1
        obtain ⟨y, hy, rfl⟩ := List.mem_map.1 h1
        have b3 := (hpc y.1 y.2 h2 h3).1 hy
        rw [← a3] at b3
        exact ⟨(List.of_mem_zip (mem_look b3)).1, h2, h3⟩
    · have hle := List.length_filter_le (fun q => decide (q < fromV bel d.key (i + 1))) d.ks
      have hjl : (d.ks.filter fun q => decide (q < fromV bel d.key i)).length + j < d.ks.length := by omega
      have g1 := sorted_idx C.asc (fromV bel d.key i) _ hjl
      have g2 := sorted_idx C.asc (fromV bel d.key (i + 1)) _ hjl
      obtain ⟨J, hJ⟩ : ∃ J, (d.ks.filter fun q => decide (q < fromV bel d.key i)).length + j = J := ⟨_, rfl⟩
      have hkl := C.kl
      show fromV bel d.key i ≤ d.ks[(d.ks.filter fun q => decide (q < fromV bel d.key i)).length + j]?.getD 0 ∧ d.ks[(d.ks.filter fun q => decide (q < fromV bel d.key i)).length + j]?.getD 0 < fromV bel d.key (i + 1) ∧ ∀ fd v, ValR _ _ (d.ks[(d.ks.filter fun q => decide (q < fromV bel d.key i)).length + j]?.getD 0) fd v → fd = true ∧ v = d.vs[(d.ks.filter fun q => decide (q < fromV bel d.key i)).length + j]?.getD 0
      rw [List.getElem?_eq_getElem hjl, List.getElem?_eq_getElem (show (d.ks.filter fun q => decide (q < fromV bel d.key i)).length + j < d.vs.length by omega)]
      have k1 : ¬ d.ks[(d.ks.filter fun q => decide (q < fromV bel d.key i)).length + j] < fromV bel d.key i := fun e => by have := g1.1 e; omega
      have k2 : d.ks[(d.ks.filter fun q => decide (q < fromV bel d.key i)).length + j] < fromV bel d.key (i + 1) := g2.2 (by omega)
      refine ⟨by show fromV bel d.key i ≤ d.ks[_]; omega, k2, fun fd v hV => ?_⟩
      obtain ⟨c1, c2⟩ := valR_look a1 a2 hV
      rw [a3] at c1 c2
      have hz2 : (d.ks[(d.ks.filter fun q => decide (q < fromV bel d.key i)).length + j], d.vs[(d.ks.filter fun q => decide (q < fromV bel d.key i)).length + j]'(by omega)) ∈ d.ks.zip d.vs := List.mem_iff_getElem?.2 ⟨_, by rw [List.getElem?_zip_eq_some]; exact ⟨List.getElem?_eq_getElem hjl, List.getElem?_eq_getElem _⟩⟩
      have b4 := (hpc _ _ (by omega) k2).1 hz2
      have b5 : mapO (ahead o (d.ts[pts[i].toNat]?.getD 0)) ((some d.ks[(d.ks.filter fun q => decide (q < fromV bel d.key i)).length + j]).getD 0) = some (d.vs[(d.ks.filter fun q => decide (q < fromV bel d.key i)).length + j]'(by omega)) := b4
      rw [b5] at c1 c2
      exact ⟨c1, c2⟩
  · have := List.pairwise_iff_getElem.1 C.asc i (i + 1) (by omega) hi (by omega)
    rw [List.getElem?_eq_getElem (show i < d.ks.length by omega), List.getElem?_eq_getElem hi]
    exact this
  · rw [← hm]; exact A.en
end Go.Proofs.YtajobgmnmbnhiaaGreatDoor.Sap
