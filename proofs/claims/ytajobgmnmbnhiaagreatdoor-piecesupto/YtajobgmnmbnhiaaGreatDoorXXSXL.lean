/- WHAT IS PROVED HERE: plain facts: the nodes of a level, from the first on by links, are a row that has them all (no program's function is walked). Conditions: none but those named at each theorem. -/
import Derived.Test.YtajobgmnmbnhiaaGreatDoorXXDXF
import Derived.Test.YtajobgmnmbnhiaaGreatDoorXXGXI
import Derived.Test.YtajobgmnmbnhiaaGreatDoorXJ3Z2
namespace Go.Proofs.YtajobgmnmbnhiaaGreatDoor.Sap
open Go.RowKit

/-- The nodes of a level from p on, by links. -/
structure RowF (t : Tre) (l : Int) (p : Nat) (ps : List Nat) : Prop where
  hd : ps[0]? = some p
  inn : ∀ q ∈ ps, t.inn q ∧ (t.nd q).lv = l
  lk : ∀ (i q : Nat), ps[i]? = some q → (t.nd q).lk = (ps[i + 1]?.map Int.ofNat).getD (-1)
  nx : ∀ (i q r : Nat), ps[i]? = some q → ps[i + 1]? = some r → t.low r = (t.nd q).hi
  ge : ∀ q ∈ ps, t.low p ≤ t.low q
  pw : ps.Pairwise fun a b => t.low a < t.low b
  all : ∀ q, t.inn q → (t.nd q).lv = l → t.low p ≤ t.low q → q ∈ ps
theorem row_ex {t : Tre} (h : t.Ok) : ∀ (n : Nat) (p : Nat) (m : Nat → Nat), (∀ p q, t.inn q → Nearer t q p → m q < m p) → m p ≤ n → t.inn p → ∃ ps, RowF t (t.nd p).lv p ps := by
  intro n
  induction n using Nat.strongRecOn with
  | ind n ih =>
    intro p m hm hn hp
    have hlo := h.lo p hp
    by_cases hh : (t.nd p).hi = 10000
    · refine ⟨[p], rfl, fun q hq => ?_, fun i q hi => ?_, fun i q r hi hj => ?_, fun q hq => ?_, by simp, fun q hq hl hlq => ?_⟩
      · rw [List.mem_singleton] at hq; subst hq; exact ⟨hp, rfl⟩
      · cases i with
        | zero =>
          have e : p = q := Option.some.inj hi
          subst e
          exact ((right_hi _ (h.rt p hp)).2.2.1).1 hh
        | succ i => simp at hi
      · simp at hj
      · rw [List.mem_singleton] at hq; subst hq; exact Int.le_refl _
      · rw [List.mem_singleton]
        rcases Nat.decEq q p with hne | he
        · have h2 := h.lo q hq
          have h3 := right_hi _ (h.rt q hq)
          rcases h.dis q p hq hp hl hne with h4 | h4 <;> omega
        · exact he
    · obtain ⟨r, r1, r2, r3, r4⟩ := h.lnk p hp hh
      have hnr : Nearer t r p := Or.inr ⟨r4, by rw [r3]; exact hlo.2⟩
      have hmr := hm p r r2 hnr
      obtain ⟨ps, R⟩ := ih (m r) (by omega) r m hm (Nat.le_refl _) r2
      rw [r4] at R
      refine ⟨p :: ps, rfl, fun q hq => ?_, fun i q hi => ?_, fun i q s hi hj => ?_, fun q hq => ?_, ?_, fun q hq hl hlq => ?_⟩
      · rcases List.mem_cons.1 hq with rfl | hq
        · exact ⟨hp, rfl⟩
        · exact R.inn q hq
      · cases i with
        | zero =>
          have e : p = q := Option.some.inj hi
          subst e
          show _ = (ps[0]?.map Int.ofNat).getD (-1)
          rw [R.hd, r1]; rfl
        | succ i => exact R.lk i q hi
      · cases i with
        | zero =>
          have e : p = q := Option.some.inj hi
          subst e
          have e2 : ps[0]? = some s := hj
          rw [R.hd] at e2
          have e3 := Option.some.inj e2
          subst e3
          exact r3
        | succ i => exact R.nx i q s hi hj
      · rcases List.mem_cons.1 hq with rfl | hq
        · exact Int.le_refl _
        · have := R.ge q hq; omega
      · refine List.pairwise_cons.2 ⟨fun q hq => ?_, R.pw⟩
        have := R.ge q hq; omega
      · rcases Nat.decEq q p with hne | he
        · refine List.mem_cons_of_mem _ (R.all q hq hl ?_)
          have h2 := h.lo q hq
          rcases h.dis q p hq hp hl hne with h4 | h4 <;> omega
        · exact List.mem_cons.2 (Or.inl he)
/-- The whole row of a level whose first node is known. -/
theorem row_all {t : Tre} (h : t.Ok) {p : Nat} (hp : t.inn p) (h0 : t.low p = 0) : ∃ ps, RowF t (t.nd p).lv p ps ∧ ps.length ≤ 64 ∧ ps.Nodup ∧ ∀ q, t.inn q → (t.nd q).lv = (t.nd p).lv → q ∈ ps := by
  obtain ⟨m, -, hm⟩ := rank_ex t h
  obtain ⟨ps, R⟩ := row_ex h _ p m hm (Nat.le_refl _) hp
  have hnd : ps.Nodup := R.pw.imp fun hlt e => by rw [e] at hlt; omega
  refine ⟨ps, R, ?_, hnd, fun q hq hl => R.all q hq hl (by rw [h0]; exact (h.lo q hq).1)⟩
  exact nodup_le 64 ps hnd fun a ha => h.lt a (R.inn a ha).1
/-- The first child of the first node of a level is the first of the level below. -/
theorem first_child {t : Tre} (h : t.Ok) {p : Nat} (hp : t.inn p) (h0 : t.low p = 0) (hl : 0 < (t.nd p).lv) : ∃ q : Nat, (t.nd p).vs[0]? = some (q : Int) ∧ t.inn q ∧ t.low q = 0 ∧ (t.nd q).lv + 1 = (t.nd p).lv := by
  have hf := h.fst p hp hl
  have hb := right_bd _ (h.rt p hp)
  cases hks : (t.nd p).ks with
  | nil => rw [hks] at hf; cases hf
  | cons a r =>
    rw [hks] at hf
    have ea : a = t.low p := Option.some.inj hf
    cases hvs : (t.nd p).vs with
    | nil => have := hb.2.2.2.1; rw [hks, hvs] at this; cases this
    | cons b s =>
      obtain ⟨q, q1, q2, q3, q4⟩ := h.chd p hp hl (a, b) (by unfold ent; rw [hks, hvs]; simp)
      refine ⟨q, ?_, q2, ?_, q4⟩
      · show some b = _
        rw [show b = (q : Int) from q1]
      · have : t.low q = a := q3
        omega
theorem sorted_idx {ks : List Int} (hp : ks.Pairwise (· < ·)) (a : Int) : ∀ (j : Nat) (hj : j < ks.length), ks[j] < a ↔ j < (ks.filter fun q => decide (q < a)).length := by
  induction ks with
  | nil => intro j hj; cases hj
  | cons x r ih =>
    obtain ⟨h1, h2⟩ := List.pairwise_cons.1 hp
    intro j hj
    by_cases hx : x < a
    · rw [List.filter_cons, if_pos (by simpa using hx), List.length_cons]
      cases j with
      | zero => simpa using hx
      | succ j =>
        have := ih h2 j (by simpa using hj)
        simp only [List.getElem_cons_succ]
        omega
    · have hno : r.filter (fun q => decide (q < a)) = [] := List.filter_eq_nil_iff.2 fun y hy => by have := h1 y hy; simp; omega
      rw [List.filter_cons, if_neg (by simpa using hx), hno]
      simp only [List.length_nil, Nat.not_lt_zero, iff_false]
      cases j with
      | zero => simpa using hx
      | succ j =>
        simp only [List.getElem_cons_succ]
        have := h1 _ (List.getElem_mem (show j < r.length by simpa using hj))
        omega
end Go.Proofs.YtajobgmnmbnhiaaGreatDoor.Sap

/- WHAT IS PROVED HERE: when all operations have ended, each has answered as a map does that those ahead of it have made; the pieces of a Scan (no program's function is walked). Conditions: none but those named at each theorem. -/
namespace Go.Proofs.YtajobgmnmbnhiaaGreatDoor.Sap
open Go.RowKit

theorem Inv.sin {wt : Bool} {gw : Nat} {x : Wd} {t : Tre} {S : Nat → St} {o : List Dn} (h : Inv wt gw x t S o) (hid : ∀ c, c < 64 → x.bs[c]? = some (-1)) : ∀ d ∈ x.ds, d.k ≠ 4 → SinOk x d := by
  intro d hd hk
  obtain ⟨i, hi⟩ := List.mem_iff_getElem?.1 hd
  obtain ⟨he, hD⟩ := h.allEnded hid i d hi
  have hE := hD.ed he
  rcases hE.an with ⟨h4, -⟩ | ⟨-, h1, h2, h3, h5⟩
  · exact absurd h4 hk
  · refine ⟨h1, h2, h3, ?_⟩
    rcases h5 with h5 | ⟨e0, e1, e2⟩
    · exact Or.inl h5
    · refine Or.inr ⟨e0, fun o' hp hs fd v hV => ?_⟩
      rw [h.uniq hid hp hs] at hV
      obtain ⟨a1, a2, a3⟩ := tabO_look (ahead o (d.ts[d.pt.toNat]?.getD 0)) (ahead_ok h.ok _)
      obtain ⟨b1, b2⟩ := valR_look a1 a2 hV
      rw [a3] at b1 b2
      exact ⟨e1.trans b1.symm, e2.trans b2.symm⟩

theorem perm_len {a b : List Int} (ha : a.Nodup) (hb : b.Nodup) (h : ∀ q, q ∈ a ↔ q ∈ b) : a.length = b.length := ((List.perm_ext_iff_of_nodup ha hb).2 h).length_eq
theorem cnt_split (ks : List Int) (a b : Int) (h : a ≤ b) : (ks.filter fun q => decide (q < a)).length + (ks.filter fun q => decide (a ≤ q) && decide (q < b)).length = (ks.filter fun q => decide (q < b)).length := by
  induction ks with
  | nil => rfl
  | cons x r ih =>
    rw [List.filter_cons, List.filter_cons, List.filter_cons]
    by_cases h1 : x < a
    · rw [if_pos (show decide (x < a) = true by simp [h1]), if_neg (show ¬ (decide (a ≤ x) && decide (x < b)) = true by simp; omega), if_pos (show decide (x < b) = true by simp; omega), List.length_cons, List.length_cons]
      omega
    · rw [if_neg (show ¬ decide (x < a) = true by simp; omega)]
      by_cases h2 : x < b
      · rw [if_pos (show (decide (a ≤ x) && decide (x < b)) = true by simp; omega), if_pos (show decide (x < b) = true by simp [h2]), List.length_cons, List.length_cons]
        omega
      · rw [if_neg (show ¬ (decide (a ≤ x) && decide (x < b)) = true by simp; omega), if_neg (show ¬ decide (x < b) = true by simp; omega)]
        exact ih
theorem Scn.up {o : List Dn} {ts : List Int} {key val : Int} {keys vals bel pts : List Int} (h : Scn o ts key val keys vals bel pts) (d j : Nat) (hj : j + d ≤ bel.length) : fromV bel key j ≤ fromV bel key (j + d) := by
  induction d with
  | zero => exact Int.le_refl _
  | succ d ih => have := ih (by omega); have := (h.bp (j + d) (by omega)).1; rw [← Nat.add_assoc]; omega
theorem Inv.pcs {wt : Bool} {gw : Nat} {x : Wd} {t : Tre} {S : Nat → St} {o : List Dn} (h : Inv wt gw x t S o) (hid : ∀ c, c < 64 → x.bs[c]? = some (-1)) : ∀ d ∈ x.ds, d.k = 4 → PcsOk x d := by
  intro d hd hk
  obtain ⟨i0, hi0⟩ := List.mem_iff_getElem?.1 hd
  obtain ⟨he, hD⟩ := h.allEnded hid i0 d hi0
  have hE := hD.ed he
  rcases hE.an with ⟨-, bel, pts, A⟩ | ⟨h4, -⟩
  case inr => exact absurd hk h4
  have hop := opR_parts hD.op
  have C := A.sc
  obtain ⟨m, hm⟩ : ∃ m, bel.length = m + 1 := ⟨bel.length - 1, by have := A.b0; omega⟩
  have b64 := A.b64
  have hbl := C.bl
  have h1b := C.up bel.length 0 (by omega)
  have h0b := (C.bp m (by omega))
  have hkm := C.up m 0 (by omega)
  rw [Nat.zero_add] at h1b hkm
  have hf0 : fromV bel d.key 0 = d.key := rfl
  refine ⟨m, bel, pts, fromV bel d.key (m + 1), fun i => (d.ks.filter fun q => decide (q < fromV bel d.key i)).length, ⟨A.er, A.fd, A.va, A.cs, hm, by omega, by omega, C.kl, ?_, ?_, rfl, A.pt, fun i hi => ?_, fun i hi => ?_, ⟨by omega, h0b.2⟩, A.k12, ?_, by omega, by omega, by omega⟩⟩
  · have : d.ks.filter (fun q => decide (q < fromV bel d.key 0)) = [] := List.filter_eq_nil_iff.2 fun q hq => by have := (C.inn q hq).1; rw [hf0]; simp; omega
    show (d.ks.filter fun q => decide (q < fromV bel d.key 0)).length = 0
    rw [this]; rfl
  · have : d.ks.filter (fun q => decide (q < fromV bel d.key (m + 1))) = d.ks := List.filter_eq_self.2 fun q hq => by have := (C.inn q hq).2; rw [hm] at this; simpa using this
    show (d.ks.filter fun q => decide (q < fromV bel d.key (m + 1))).length = _
    rw [this]
  · have hib : i < bel.length := by omega
    have hip : i < pts.length := by omega
    have hpm : pts[i] ∈ pts := List.getElem_mem hip
    have hpb := C.pb _ hpm
    have e0 : pts[i]?.getD 0 = pts[i] := by rw [List.getElem?_eq_getElem hip]; rfl
    refine ⟨pts[i].toNat, fromV bel d.key (i + 1), (d.ks.filter fun q => decide (fromV bel d.key i ≤ q) && decide (q < fromV bel d.key (i + 1))).length, fun o' hp hs => ?_⟩
    rw [h.uniq hid hp hs]
    have hpc := fun q u => C.pc i q u hib
    rw [e0] at hpc
    obtain ⟨a1, a2, a3⟩ := tabO_look (ahead o (d.ts[pts[i].toNat]?.getD 0)) (ahead_ok h.ok _)
    have hbp := C.bp i hib
    have hcs := cnt_split d.ks (fromV bel d.key i) (fromV bel d.key (i + 1)) (by omega)
    refine ⟨by rw [List.getElem?_eq_getElem hip]; congr 1; omega, by omega, ?_, ?_, hbp.1, hbp.2, ?_, hcs, List.length_filter_le _ _, fun j hj => ?_⟩
    · show bel[i]? = some (bel[i]?.getD 0)
      rw [List.getElem?_eq_getElem hib]; rfl
    · have hmem : d.ts[pts[i].toNat]?.getD 0 ∈ d.ts := ts_mem hpb
      cases i with
      | zero => show (-1 : Int) < _; have := (hD.lt _ hmem).1; omega
      | succ i =>
        show d.ts[(pts[i]?.getD 0).toNat]?.getD 0 < d.ts[pts[i + 1].toNat]?.getD 0
        have hi2 : i < pts.length := by omega
        rw [List.getElem?_eq_getElem hi2]
        have hpb2 := C.pb _ (List.getElem_mem hi2)
        have hlt := List.pairwise_iff_getElem.1 C.pp i (i + 1) hi2 hip (by omega)
        show d.ts[pts[i].toNat]?.getD 0 < _
        rw [List.getElem?_eq_getElem (show pts[i].toNat < d.ts.length by omega), List.getElem?_eq_getElem (show pts[i + 1].toNat < d.ts.length by omega)]
        exact List.pairwise_iff_getElem.1 hD.tp _ _ (by omega) (by omega) (by omega)
    · unfold cntW
      rw [List.take_length]
      have hnd : d.ks.Nodup := C.asc.imp fun h e => by omega
      refine perm_len (a1.filter _) (hnd.filter _) fun q => ?_
      rw [List.mem_filter, List.mem_filter]
      simp only [Bool.and_eq_true, decide_eq_true_eq]
      have hnz : (((tabO (ahead o (d.ts[pts[i].toNat]?.getD 0))).1.zip (tabO (ahead o (d.ts[pts[i].toNat]?.getD 0))).2).map Prod.fst).Nodup := by rw [fst_zip a2]; exact a1
      constructor
      · rintro ⟨h1, h2, h3⟩
        obtain ⟨u, hu⟩ : ∃ u, (q, u) ∈ (tabO (ahead o (d.ts[pts[i].toNat]?.getD 0))).1.zip (tabO (ahead o (d.ts[pts[i].toNat]?.getD 0))).2 := by
          rw [← fst_zip a2] at h1
          obtain ⟨y, hy, rfl⟩ := List.mem_map.1 h1
          exact ⟨y.2, hy⟩
        have := look_mem hnz hu
        rw [a3] at this
        exact ⟨(List.of_mem_zip ((hpc q u h2 h3).2 this)).1, h2, h3⟩
      · rintro ⟨h1, h2, h3⟩
        rw [← fst_zip C.kl] at h1
        obtain ⟨y, hy, rfl⟩ := List.mem_map.1 h1
        have b3 := (hpc y.1 y.2 h2 h3).1 hy
        rw [← a3] at b3
        exact ⟨(List.of_mem_zip (mem_look b3)).1, h2, h3⟩
    · have hle := List.length_filter_le (fun q => decide (q < fromV bel d.key (i + 1))) d.ks
      have hjl : (d.ks.filter fun q => decide (q < fromV bel d.key i)).length + j < d.ks.length := by omega
      have g1 := sorted_idx C.asc (fromV bel d.key i) _ hjl
      have g2 := sorted_idx C.asc (fromV bel d.key (i + 1)) _ hjl
      obtain ⟨J, hJ⟩ : ∃ J, (d.ks.filter fun q => decide (q < fromV bel d.key i)).length + j = J := ⟨_, rfl⟩
      have hkl := C.kl
      show fromV bel d.key i ≤ d.ks[(d.ks.filter fun q => decide (q < fromV bel d.key i)).length + j]?.getD 0 ∧ d.ks[(d.ks.filter fun q => decide (q < fromV bel d.key i)).length + j]?.getD 0 < fromV bel d.key (i + 1) ∧ ∀ fd v, ValR _ _ (d.ks[(d.ks.filter fun q => decide (q < fromV bel d.key i)).length + j]?.getD 0) fd v → fd = true ∧ v = d.vs[(d.ks.filter fun q => decide (q < fromV bel d.key i)).length + j]?.getD 0
      rw [List.getElem?_eq_getElem hjl, List.getElem?_eq_getElem (show (d.ks.filter fun q => decide (q < fromV bel d.key i)).length + j < d.vs.length by omega)]
      have k1 : ¬ d.ks[(d.ks.filter fun q => decide (q < fromV bel d.key i)).length + j] < fromV bel d.key i := fun e => by have := g1.1 e; omega
      have k2 : d.ks[(d.ks.filter fun q => decide (q < fromV bel d.key i)).length + j] < fromV bel d.key (i + 1) := g2.2 (by omega)
      refine ⟨by show fromV bel d.key i ≤ d.ks[_]; omega, k2, fun fd v hV => ?_⟩
      obtain ⟨c1, c2⟩ := valR_look a1 a2 hV
      rw [a3] at c1 c2
      have hz2 : (d.ks[(d.ks.filter fun q => decide (q < fromV bel d.key i)).length + j], d.vs[(d.ks.filter fun q => decide (q < fromV bel d.key i)).length + j]'(by omega)) ∈ d.ks.zip d.vs := List.mem_iff_getElem?.2 ⟨_, by rw [List.getElem?_zip_eq_some]; exact ⟨List.getElem?_eq_getElem hjl, List.getElem?_eq_getElem _⟩⟩
      have b4 := (hpc _ _ (by omega) k2).1 hz2
      have b5 : mapO (ahead o (d.ts[pts[i].toNat]?.getD 0)) ((some d.ks[(d.ks.filter fun q => decide (q < fromV bel d.key i)).length + j]).getD 0) = some (d.vs[(d.ks.filter fun q => decide (q < fromV bel d.key i)).length + j]'(by omega)) := b4
      rw [b5] at c1 c2
      exact ⟨c1, c2⟩
  · have := List.pairwise_iff_getElem.1 C.asc i (i + 1) (by omega) hi (by omega)
    rw [List.getElem?_eq_getElem (show i < d.ks.length by omega), List.getElem?_eq_getElem hi]
    exact this
  · rw [← hm]; exact A.en
end Go.Proofs.YtajobgmnmbnhiaaGreatDoor.Sap

/- WHAT IS PROVED HERE: Linear and Pieces over the program at this commit. Conditions: the table of powers of ten is laid; the script has at most 1048576 turns. -/
namespace Go.Proofs.YtajobgmnmbnhiaaGreatDoor.Sap
open Go.RowKit

theorem linear_any (sv : Value) (ts : List Tn) (w : World) (htab : Tab w) (hT : TRd w sv ts) (hok : ∀ t ∈ ts, t.ok) (hlen : ts.length ≤ 1048576) :
    Calls Tryz.prog 5 #[sv] w fun e w' => e = .returned (.bool true) ∧ Below w.heap.size w w' := by
  obtain ⟨rk, G⟩ := good_ex
  exact linear_gen sv ts (InvG false) rk w htab hT hok hlen G fun _ _ ⟨⟨_, _, _, h⟩, _⟩ hid _ => h.sin hid
theorem pieces_any (sv : Value) (ts : List Tn) (w : World) (htab : Tab w) (hT : TRd w sv ts) (hok : ∀ t ∈ ts, t.ok) (hlen : ts.length ≤ 1048576) :
    Calls Tryz.prog 6 #[sv] w fun e w' => e = .returned (.bool true) ∧ Below w.heap.size w w' := by
  obtain ⟨rk, G⟩ := good_ex
  exact pieces_gen sv ts (InvG false) rk w htab hT hok hlen G fun _ _ ⟨⟨_, _, _, h⟩, _⟩ hid _ => h.pcs hid
end Go.Proofs.YtajobgmnmbnhiaaGreatDoor.Sap
