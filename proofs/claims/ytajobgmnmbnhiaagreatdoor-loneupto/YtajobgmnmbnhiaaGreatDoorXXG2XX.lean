/- WHAT IS PROVED HERE: when all operations have ended, each has answered as a map does that those ahead of it have made; the pieces of a Scan (no program's function is walked). Conditions: none but those named at each theorem. -/
import Derived.Test.YtajobgmnmbnhiaaGreatDoorXXGXT
import Derived.Test.YtajobgmnmbnhiaaGreatDoorXXKXN
import Derived.Test.YtajobgmnmbnhiaaGreatDoorXP1J3
import Derived.Test.YtajobgmnmbnhiaaGreatDoorXJ7Z2
namespace Go.Proofs.YtajobgmnmbnhiaaGreatDoor.Sap
open Go.RowKit

theorem Inv.sin {wt : Bool} {gw : Nat} {x : Wd} {t : Tre} {S : Nat → St} {o : List Dn} (h : Inv wt gw x t S o) (hid : ∀ c, c < 64 → x.bs[c]? = some (-1)) : ∀ d ∈ x.ds, d.k ≠ 4 → SinOk x d := by
  intro d hd hk
  obtain ⟨i, hi⟩ := List.mem_iff_getElem?.1 hd
  obtain ⟨he, hD⟩ := h.allEnded hid i d hi
  have hE := hD.ed he
  rcases hE.an with ⟨h4, -⟩ | ⟨-, h1, h2, h3, h5⟩
  · exact absurd h4 hk
  · refine ⟨h1, h2, h3, ?_⟩
    rcases h5 with h5 | ⟨e0, e1, e2⟩
    · exact Or.inl h5
    · refine Or.inr ⟨e0, fun o' hp hs fd v hV => ?_⟩
      rw [h.uniq hid hp hs] at hV
      obtain ⟨a1, a2, a3⟩ := tabO_look (ahead o (d.ts[d.pt.toNat]?.getD 0)) (ahead_ok h.ok _)
      obtain ⟨b1, b2⟩ := valR_look a1 a2 hV
      rw [a3] at b1 b2
      exact ⟨e1.trans b1.symm, e2.trans b2.symm⟩

theorem perm_len {a b : List Int} (ha : a.Nodup) (hb : b.Nodup) (h : ∀ q, q ∈ a ↔ q ∈ b) : a.length = b.length := ((List.perm_ext_iff_of_nodup ha hb).2 h).length_eq
theorem cnt_split (ks : List Int) (a b : Int) (h : a ≤ b) : (ks.filter fun q => decide (q < a)).length + (ks.filter fun q => decide (a ≤ q) && decide (q < b)).length = (ks.filter fun q => decide (q < b)).length := by
  induction ks with
  | nil => rfl
  | cons x r ih =>
    rw [List.filter_cons, List.filter_cons, List.filter_cons]
    by_cases h1 : x < a
    · rw [if_pos (show decide (x < a) = true by simp [h1]), if_neg (show ¬ (decide (a ≤ x) && decide (x < b)) = true by simp; omega), if_pos (show decide (x < b) = true by simp; omega), List.length_cons, List.length_cons]
      omega
    · rw [if_neg (show ¬ decide (x < a) = true by simp; omega)]
      by_cases h2 : x < b
      · rw [if_pos (show (decide (a ≤ x) && decide (x < b)) = true by simp; omega), if_pos (show decide (x < b) = true by simp [h2]), List.length_cons, List.length_cons]
        omega
      · rw [if_neg (show ¬ (decide (a ≤ x) && decide (x < b)) = true by simp; omega), if_neg (show ¬ decide (x < b) = true by simp; omega)]
        exact ih
theorem Scn.up {o : List Dn} {ts : List Int} {key val : Int} {keys vals bel pts : List Int} (h : Scn o ts key val keys vals bel pts) (d j : Nat) (hj : j + d ≤ bel.length) : fromV bel key j ≤ fromV bel key (j + d) := by
  induction d with
  | zero => exact Int.le_refl _
  | succ d ih => have := ih (by omega); have := (h.bp (j + d) (by omega)).1; rw [← Nat.add_assoc]; omega
theorem Inv.pcs {wt : Bool} {gw : Nat} {x : Wd} {t : Tre} {S : Nat → St} {o : List Dn} (h : Inv wt gw x t S o) (hid : ∀ c, c < 64 → x.bs[c]? = some (-1)) : ∀ d ∈ x.ds, d.k = 4 → PcsOk x d := by
  intro d hd hk
  obtain ⟨i0, hi0⟩ := List.mem_iff_getElem?.1 hd
  obtain ⟨he, hD⟩ := h.allEnded hid i0 d hi0
  have hE := hD.ed he
  rcases hE.an with ⟨-, bel, pts, A⟩ | ⟨h4, -⟩
  case inr => exact absurd hk h4
  have hop := opR_parts hD.op
  have C := A.sc
  obtain ⟨m, hm⟩ : ∃ m, bel.length = m + 1 := ⟨bel.length - 1, by have := A.b0; omega⟩
  have b64 := A.b64
  have hbl := C.bl
  have h1b := C.up bel.length 0 (by omega)
  have h0b := (C.bp m (by omega))
  have hkm := C.up m 0 (by omega)
  rw [Nat.zero_add] at h1b hkm
  have hf0 : fromV bel d.key 0 = d.key := rfl
  refine ⟨m, bel, pts, fromV bel d.key (m + 1), fun i => (d.ks.filter fun q => decide (q < fromV bel d.key i)).length, ⟨A.er, A.fd, A.va, A.cs, hm, by omega, by omega, C.kl, ?_, ?_, rfl, A.pt, fun i hi => ?_, fun i hi => ?_, ⟨by omega, h0b.2⟩, A.k12, ?_, by omega, by omega, by omega⟩⟩
  · have : d.ks.filter (fun q => decide (q < fromV bel d.key 0)) = [] := List.filter_eq_nil_iff.2 fun q hq => by have := (C.inn q hq).1; rw [hf0]; simp; omega
    show (d.ks.filter fun q => decide (q < fromV bel d.key 0)).length = 0
    rw [this]; rfl
  · have : d.ks.filter (fun q => decide (q < fromV bel d.key (m + 1))) = d.ks := List.filter_eq_self.2 fun q hq => by have := (C.inn q hq).2; rw [hm] at this; simpa using this
    show (d.ks.filter fun q => decide (q < fromV bel d.key (m + 1))).length = _
    rw [this]
  · have hib : i < bel.length := by omega
    have hip : i < pts.length := by omega
    have hpm : pts[i] ∈ pts := List.getElem_mem hip
    have hpb := C.pb _ hpm
    have e0 : pts[i]?.getD 0 = pts[i] := by rw [List.getElem?_eq_getElem hip]; rfl
    refine ⟨pts[i].toNat, fromV bel d.key (i + 1), (d.ks.filter fun q => decide (fromV bel d.key i ≤ q) && decide (q < fromV bel d.key (i + 1))).length, fun o' hp hs => ?_⟩
    rw [h.uniq hid hp hs]
    have hpc := fun q u => C.pc i q u hib
    rw [e0] at hpc
    obtain ⟨a1, a2, a3⟩ := tabO_look (ahead o (d.ts[pts[i].toNat]?.getD 0)) (ahead_ok h.ok _)
    have hbp := C.bp i hib
    have hcs := cnt_split d.ks (fromV bel d.key i) (fromV bel d.key (i + 1)) (by omega)
    refine ⟨by rw [List.getElem?_eq_getElem hip]; congr 1; omega, by omega, ?_, ?_, hbp.1, hbp.2, ?_, hcs, List.length_filter_le _ _, fun j hj => ?_⟩
    · show bel[i]? = some (bel[i]?.getD 0)
      rw [List.getElem?_eq_getElem hib]; rfl
    · have hmem : d.ts[pts[i].toNat]?.getD 0 ∈ d.ts := ts_mem hpb
      cases i with
      | zero => show (-1 : Int) < _; have := (hD.lt _ hmem).1; omega
      | succ i =>
        show d.ts[(pts[i]?.getD 0).toNat]?.getD 0 < d.ts[pts[i + 1].toNat]?.getD 0
        have hi2 : i < pts.length := by omega
        rw [List.getElem?_eq_getElem hi2]
        have hpb2 := C.pb _ (List.getElem_mem hi2)
        have hlt := List.pairwise_iff_getElem.1 C.pp i (i + 1) hi2 hip (by omega)
        show d.ts[pts[i].toNat]?.getD 0 < _
        rw [List.getElem?_eq_getElem (show pts[i].toNat < d.ts.length by omega), List.getElem?_eq_getElem (show pts[i + 1].toNat < d.ts.length by omega)]
        exact List.pairwise_iff_getElem.1 hD.tp _ _ (by omega) (by omega) (by omega)
    · unfold cntW
      rw [List.take_length]
      have hnd : d.ks.Nodup := C.asc.imp fun h e => by omega
      refine perm_len (a1.filter _) (hnd.filter _) fun q => ?_
      rw [List.mem_filter, List.mem_filter]
      simp only [Bool.and_eq_true, decide_eq_true_eq]
      have hnz : (((tabO (ahead o (d.ts[pts[i].toNat]?.getD 0))).1.zip (tabO (ahead o (d.ts[pts[i].toNat]?.getD 0))).2).map Prod.fst).Nodup := by rw [fst_zip a2]; exact a1
      constructor
      · rintro ⟨h1, h2, h3⟩
        obtain ⟨u, hu⟩ : ∃ u, (q, u) ∈ (tabO (ahead o (d.ts[pts[i].toNat]?.getD 0))).1.zip (tabO (ahead o (d.ts[pts[i].toNat]?.getD 0))).2 := by
          rw [← fst_zip a2] at h1
          obtain ⟨y, hy, rfl⟩ := List.mem_map.1 h1
          exact ⟨y.2, hy⟩
        have := look_mem hnz hu
        rw [a3] at this
        exact ⟨(List.of_mem_zip ((hpc q u h2 h3).2 this)).1, h2, h3⟩
      · rintro ⟨h1, h2, h3⟩
        rw [← fst_zip C.kl] at h1
        obtain ⟨y, hy, rfl⟩ := List.mem_map.1 h1
        have b3 := (hpc y.1 y.2 h2 h3).1 hy
        rw [← a3] at b3
        exact ⟨(List.of_mem_zip (mem_look b3)).1, h2, h3⟩
    · have hle := List.length_filter_le (fun q => decide (q < fromV bel d.key (i + 1))) d.ks
      have hjl : (d.ks.filter fun q => decide (q < fromV bel d.key i)).length + j < d.ks.length := by omega
      have g1 := sorted_idx C.asc (fromV bel d.key i) _ hjl
      have g2 := sorted_idx C.asc (fromV bel d.key (i + 1)) _ hjl
      obtain ⟨J, hJ⟩ : ∃ J, (d.ks.filter fun q => decide (q < fromV bel d.key i)).length + j = J := ⟨_, rfl⟩
      have hkl := C.kl
      show fromV bel d.key i ≤ d.ks[(d.ks.filter fun q => decide (q < fromV bel d.key i)).length + j]?.getD 0 ∧ d.ks[(d.ks.filter fun q => decide (q < fromV bel d.key i)).length + j]?.getD 0 < fromV bel d.key (i + 1) ∧ ∀ fd v, ValR _ _ (d.ks[(d.ks.filter fun q => decide (q < fromV bel d.key i)).length + j]?.getD 0) fd v → fd = true ∧ v = d.vs[(d.ks.filter fun q => decide (q < fromV bel d.key i)).length + j]?.getD 0
      rw [List.getElem?_eq_getElem hjl, List.getElem?_eq_getElem (show (d.ks.filter fun q => decide (q < fromV bel d.key i)).length + j < d.vs.length by omega)]
      have k1 : ¬ d.ks[(d.ks.filter fun q => decide (q < fromV bel d.key i)).length + j] < fromV bel d.key i := fun e => by have := g1.1 e; omega
      have k2 : d.ks[(d.ks.filter fun q => decide (q < fromV bel d.key i)).length + j] < fromV bel d.key (i + 1) := g2.2 (by omega)
      refine ⟨by show fromV bel d.key i ≤ d.ks[_]; omega, k2, fun fd v hV => ?_⟩
      obtain ⟨c1, c2⟩ := valR_look a1 a2 hV
      rw [a3] at c1 c2
      have hz2 : (d.ks[(d.ks.filter fun q => decide (q < fromV bel d.key i)).length + j], d.vs[(d.ks.filter fun q => decide (q < fromV bel d.key i)).length + j]'(by omega)) ∈ d.ks.zip d.vs := List.mem_iff_getElem?.2 ⟨_, by rw [List.getElem?_zip_eq_some]; exact ⟨List.getElem?_eq_getElem hjl, List.getElem?_eq_getElem _⟩⟩
      have b4 := (hpc _ _ (by omega) k2).1 hz2
      have b5 : mapO (ahead o (d.ts[pts[i].toNat]?.getD 0)) ((some d.ks[(d.ks.filter fun q => decide (q < fromV bel d.key i)).length + j]).getD 0) = some (d.vs[(d.ks.filter fun q => decide (q < fromV bel d.key i)).length + j]'(by omega)) := b4
      rw [b5] at c1 c2
      exact ⟨c1, c2⟩
  · have := List.pairwise_iff_getElem.1 C.asc i (i + 1) (by omega) hi (by omega)
    rw [List.getElem?_eq_getElem (show i < d.ks.length by omega), List.getElem?_eq_getElem hi]
    exact this
  · rw [← hm]; exact A.en
end Go.Proofs.YtajobgmnmbnhiaaGreatDoor.Sap

/- WHAT IS PROVED HERE: plain facts: what Lone asks of an operation that ended alone (LnE); such an operation has few accesses (no program's function is walked). Conditions: none but those named at each theorem. -/
namespace Go.Proofs.YtajobgmnmbnhiaaGreatDoor.Sap
open Go.RowKit

/-- Between two operations: the table is the map's. -/
def RsI (gw : Nat) (x : Wd) (T : List Int × List Int) (I : Nat) : Prop := ∃ t S o, Rest gw x t S o I ∧ T = tabO o
theorem tdo_get (k key v : Int) (K V : List Int) (h2 : k ≠ 2) (h3 : k ≠ 3) : tdo k key v K V = (K, V) := by
  unfold tdo
  rw [if_neg h2, if_neg h3, if_neg h2]
  split <;> rfl
theorem SoloE.lnE {gw : Nat} {x0 x : Wd} {t0 t : Tre} {S0 S : Nat → St} {o0 o : List Dn} {I : Nat} {d : Dd} (R : Rest gw x0 t0 S0 o0 I) (E : SoloE (Rest.sta x0 t0 I) x t S d) (h : Inv false gw x t S o) (hnow : x.now ≤ x0.now + 300) : LnE RsI gw x0 (tabO o0) I d.k d.key d.v x d := by
  obtain ⟨h1, h2, h3⟩ := E.order R h
  have hR := E.rest h
  have hE := h.allEnded E.idle _ d E.own
  have hEd := hE.2.ed hE.1
  refine ⟨hnow, E.len, E.own, ?_⟩
  by_cases hk : d.k = 4
  · have ht : tkD d = none := by unfold tkD; rw [if_neg (by omega)]
    rw [if_neg (by omega), Nat.add_zero] at hR
    have ho : o = o0 := by rw [h1, ht]; show o0 ++ [] = o0; rw [List.append_nil]
    obtain ⟨m, bel, pts, b, sn, P⟩ := h.pcs E.idle d (List.mem_of_getElem? E.own) hk
    refine Or.inl ⟨hk, ⟨m, bel, pts, b, sn, ⟨P.er, P.fd, P.va, P.cs, P.bl, P.pl, P.mm, P.ks, P.s0, P.sE, P.fE, P.pt, fun i hi => ?_, P.ri, P.bb, P.h12, P.nd, P.v0, P.v1, P.k0⟩⟩, t, S, o, hR, by rw [ho]⟩
    obtain ⟨p, be, k, hp⟩ := P.pa i hi
    have hpm : o.Perm (tkL x.ds) := by rw [← h.effs_all E.idle]; exact h.op
    have Q := hp o hpm (h.os.imp fun h => by omega)
    refine ⟨p, be, k, ?_⟩
    have hmem : d.ts[p]?.getD 0 ∈ d.ts := by
      rw [List.getElem?_eq_getElem Q.pj]
      exact List.getElem_mem _
    rw [h2 ht _ hmem] at Q
    exact Q
  · obtain ⟨a1, a2, a3⟩ := tabO_look o0 R.inv.ok
    rcases E.answer R h hk with ⟨e1, e2, e3⟩ | ⟨e1, e2, e3⟩
    · have ht : tkD d = none := by unfold tkD; rw [if_neg (by omega)]
      have ho : o = o0 := by rw [h1, ht]; show o0 ++ [] = o0; rw [List.append_nil]
      rw [if_neg (by omega), Nat.add_zero] at hR
      exact Or.inr (Or.inl ⟨e2, e1, e3, t, S, o, hR, by rw [ho]⟩)
    · refine Or.inr (Or.inr ⟨hk, e1, fun fd u hv => ?_, ⟨t, S, o, ?_, ?_⟩, fun hk1 => ?_⟩)
      · have := valR_look a1 a2 hv
        rw [a3] at this
        rw [e2, e3, this.1, this.2]; exact ⟨rfl, rfl⟩
      · have e : (d.k = 2 ∧ d.er = 0 ∧ d.fd = false) = (d.k = 2 ∧ d.fd = false) := by rw [e1]; simp
        simp only [e] at hR
        exact hR
      · by_cases h23 : d.k = 2 ∨ d.k = 3
        · have ht : tkD d = some ⟨d.at, d.k, d.key, d.v⟩ := by unfold tkD; rw [if_pos ⟨h23, e1⟩]; rfl
          rw [h1, ht]
          exact (tabO_snoc o0 ⟨d.at, d.k, d.key, d.v⟩).symm
        · have ht : tkD d = none := by unfold tkD; rw [if_neg (by omega)]
          rw [h1, ht, tdo_get _ _ _ _ _ (by omega) (by omega)]
          show _ = tabO (o0 ++ [])
          rw [List.append_nil]
      · rcases E.get hk1 with h4 | ⟨h4, h5⟩
        · exact Or.inl h4
        · refine Or.inr fun nd hs => ?_
          have hn : nd = t0.nd 0 := by
            obtain ⟨-, -, u, hu, hn⟩ := hs
            obtain ⟨-, -, u', hu', hn'⟩ := R.inv.say 0 R.inv.tok.r0
            rw [hu] at hu'
            cases hu'
            exact hn.uniq hn'
          rw [hn]
          exact ⟨h4, h5⟩
/-- How far one that moves alone is from its end, at least. -/
theorem Solo.rk {gw : Nat} {a : Sta} {x : Wd} {t : Tre} {S : Nat → St} {o : List Dn} {d : Dd} (H : Solo a x t S d) (h : Mov false gw x t S o 0 a.i d) (m : Nat → Nat) : 421 ≤ rnk m x.V (S a.i) := by
  have hlv : (S a.i).lv ≤ 3 := by
    have hr := root_lv h.inv.tok H.X.ct
    rcases Int.lt_or_le 0 (S a.i).lv with hl | hl
    · obtain ⟨q, h1, h2, h3, h4⟩ := (h.live.ent hl).ch
      have hq : q ≠ 0 := fun e => by
        rcases h.live.ok.ent with h5 | h5
        · omega
        · have : (S a.i).ch = (q : Int) := h1
          omega
      have := h.inv.tok.top q h2 hq
      omega
    · omega
  have := h.live.ok.lvb
  unfold rnk
  split
  · omega
  · split <;> omega
end Go.Proofs.YtajobgmnmbnhiaaGreatDoor.Sap

/- WHAT IS PROVED HERE: Lone over the program at this commit: operations of which each moves alone are answered as a plain map answers them. Conditions: the table of powers of ten is laid; there are at most 262144 operations. -/
namespace Go.Proofs.YtajobgmnmbnhiaaGreatDoor.Sap
open Go.RowKit

/-- One that moves alone behind the world x0, r from its end; one that has ended. -/
def SoQ (gw : Nat) (x0 : Wd) (t0 : Tre) (I : Nat) (k key v N : Int) (x : Wd) (r : Nat) : Prop := ∃ t S o m d, Inv false gw x t S o ∧ RkOk t m ∧ Solo (Rest.sta x0 t0 I) x t S d ∧ x.ds[x0.ds.length]? = some d ∧ d.k = k ∧ d.key = key ∧ d.v = v ∧ x.bs[0]? = some (x0.ds.length : Int) ∧ d.en = false ∧ r = rnk m x.V (S x0.ds.length) ∧ x.now + (r : Int) ≤ N
def SoF (gw : Nat) (x0 : Wd) (t0 : Tre) (I : Nat) (k key v N : Int) (x : Wd) : Prop := ∃ t S o d, Inv false gw x t S o ∧ SoloE (Rest.sta x0 t0 I) x t S d ∧ d.k = k ∧ d.key = key ∧ d.v = v ∧ x.bs[0]? = some (-1) ∧ x.now + 420 ≤ N
def LbI (gw : Nat) (x : Wd) (T : List Int × List Int) (I : Nat) (k key v : Int) (x' : Wd) : Prop := ∃ t0 S0 o0, Rest gw x t0 S0 o0 I ∧ T = tabO o0 ∧ x.ds.length ≤ 89000000 ∧ ∃ N r, N ≤ x.now + 698 ∧ N ≤ 90000000 ∧ SoQ gw x t0 I k key v N x' r

theorem so_step (w0 : World) (htab : Tab w0) {x0 : Wd} {t0 : Tre} {I : Nat} {k key v N : Int} (hi : x0.ds.length ≤ 89000000) (hN : N ≤ 90000000) {x : Wd} {r : Nat} (hx : SoQ w0.heap.size x0 t0 I k key v N x r) (fr : List As) (W : World) (hM : M w0 w0.heap.size W (x.as ++ fr)) :
    Calls Tryz.prog 28 #[.pointer (some ⟨w0.heap.size, 0, none⟩), .int .i64 0] W fun e w' => (∃ u, e = .returned u) ∧ ∃ x', (SoF w0.heap.size x0 t0 I k key v N x' ∨ ∃ r', r' < r ∧ SoQ w0.heap.size x0 t0 I k key v N x' r') ∧ M w0 w0.heap.size w' (x'.as ++ fr) := by
  obtain ⟨t, S, o, m, d, h, hm, H, hd, hk, hkey, hv, hb, he, hr, hnow⟩ := hx
  have P : Mov false w0.heap.size x t S o 0 (Rest.sta x0 t0 I).i d := ⟨h, by omega, hb, hd, he, by omega⟩
  have hlen : x.ds.length = x0.ds.length + 1 := H.len
  have hil : x0.ds.length < x.ds.length := by omega
  have hbl : 0 < x.bs.length := by rw [h.bsl]; omega
  have hrk := H.rk P m
  have hr2 : r = rnk m x.V (S (Rest.sta x0 t0 I).i) := hr
  obtain ⟨T', U', V', kns', rf1, rr, hA, hrr⟩ := H.acc P hm
  rcases hrr with ⟨s', t', o', m', rfl, hm', hlt, hI⟩ | ⟨t', o', er, fd, va, pt, ks, vs, cs, rfl, hI⟩
  · have C := P.run_on (by omega) hA fr w0 W w0.heap.size htab rfl hM
    refine C.mono ?_
    rintro e w' ⟨hu, tm, f, hf, hM'⟩
    obtain ⟨hI1, hI2⟩ := hI tm f hf
    have ui : upS S (Rest.sta x0 t0 I).i s' x0.ds.length = s' := if_pos rfl
    refine ⟨hu, _, Or.inr ⟨rnk m' V' s', by omega, t', _, o', m', _, hI1, hm', hI2, List.getElem?_set_self hil, hk, hkey, hv, hb, he, by rw [ui], ?_⟩, hM'⟩
    show x.now + 1 + (rnk m' V' s' : Int) ≤ N
    omega
  · have C := P.run_fin (by omega) hA fr w0 W w0.heap.size htab rfl hM
    refine C.mono ?_
    rintro e w' ⟨hu, tm, kv, vv, cv, hM'⟩
    obtain ⟨hI1, hI2⟩ := hI tm kv vv cv
    refine ⟨hu, _, Or.inl ⟨t', _, o', _, hI1, hI2, hk, hkey, hv, List.getElem?_set_self hbl, ?_⟩, hM'⟩
    show x.now + 1 + 420 ≤ N
    omega

theorem lnI (w0 : World) (htab : Tab w0) : LnOk RsI LbI w0 where
  ini := fun tg tc ug uc vg vc bg bc => ⟨_, _, _, rest_first w0.heap.size tg tc ug uc vg vc bg bc, rfl⟩
  pg := fun x T I ⟨t, S, o, R, e⟩ => ⟨R.inv.pg, ⟨_, R.inv.say 0 R.inv.tok.r0⟩, by rw [e]; exact (tabO_look o R.inv.ok).2.1⟩
  bg := fun x T I k key v W fr ⟨t, S, o, R, e⟩ hnd hn ho hM => by
    have h := R.inv
    have hp := h.puts
    have C := begin_step x 0 k key v fr w0 W w0.heap.size htab rfl (by omega) (by omega) hp.1 (by omega) ho hM
    rw [h.pg] at C
    refine C.mono ?_
    rintro e' w' ⟨hu, gd, kg, kc, f, dv, hf, hM'⟩
    have h9 := h.begun (by omega) (R.idle 0 (by omega)) ho gd kg kc f dv hf
    have h8 := R.begin ho gd kg kc f dv
    rw [h.pg] at h9 h8
    obtain ⟨m, hm1, hm2⟩ := rank_ex t h.tok
    have ui : upS S x.ds.length (bgS k key v) x.ds.length = bgS k key v := if_pos rfl
    have hrk : rnk m x.V (bgS k key v) ≤ 698 := by
      rw [rnk_rd rfl]
      have e0 : (bgS k key v).lv = 0 := rfl
      have := hm1 (bgS k key v).pg.toNat
      rw [e0]
      omega
    refine ⟨hu, _, ⟨t, S, o, R, e, hnd, x.now + 698, rnk m x.V (bgS k key v), by omega, by omega, t, _, o, m, Dd.new gd kg kc k key v f, h9, ⟨hm1, hm2⟩, h8, ?_, rfl, rfl, rfl, List.getElem?_set_self (by rw [h.bsl]; omega), rfl, by rw [ui], ?_⟩, hM'⟩
    · show (x.ds ++ [Dd.new gd kg kc k key v f])[x.ds.length]? = _
      rw [List.getElem?_append_right (Nat.le_refl _), Nat.sub_self]; rfl
    · show x.now + (rnk m x.V (bgS k key v) : Int) ≤ _
      omega
  pb := fun x T I k key v x' ⟨_, _, _, _, _, _, _, _, _, _, _, _, _, _, _, h, _⟩ => h.pg
  al := fun x T I k key v x' W fr ⟨t0, S0, o0, R, eT, hi, N, r, hN1, hN2, hL⟩ hM => by
    obtain ⟨rk, hrk⟩ := rkQ_ex (SoQ w0.heap.size x t0 I k key v N)
    have live : ∀ {y r}, SoQ w0.heap.size x t0 I k key v N y r → y.bs[0]? = some (x.ds.length : Int) ∧ 0 < r ∧ r ≤ 1000 := fun {y r} ⟨t, S, o, m, d, h, hm, _, hd, _, _, _, hb, he, hr, _⟩ => ⟨hb, by rw [hr]; exact rnk_rng hm ((h.ds _ d hd).lv he).ok⟩
    refine (alone_gen 0 w0.heap.size (fun y => SoF w0.heap.size x t0 I k key v N y ∨ ∃ r, SoQ w0.heap.size x t0 I k key v N y r) (fun y => if y.bs[0]? = some (-1) then 0 else rk y) fr w0 W w0.heap.size x' (by omega) (fun y hy => ?_) (fun y hy => ?_) (fun y j W hy hb hW => ?_) (Or.inr ⟨r, hL⟩) ?_ hM).mono ?_
    · rcases hy with ⟨_, _, _, _, h, _⟩ | ⟨_, _, _, _, _, _, h, _⟩ <;> exact h.pg
    · rcases hy with ⟨_, _, _, _, _, _, _, _, _, h1, _⟩ | ⟨r, h1⟩
      · exact Or.inl h1
      · have h2 := live (hrk y r h1).1
        refine Or.inr ⟨⟨x.ds.length, h2.1⟩, ?_⟩
        show 0 < (if y.bs[0]? = some (-1) then 0 else rk y)
        rw [h2.1, if_neg ne_neg]; exact h2.2.1
    · rcases hy with ⟨_, _, _, _, _, _, _, _, _, h1, _⟩ | ⟨r, h1⟩
      · rw [hb] at h1; exact absurd h1 ne_neg
      · have h2 := (hrk y r h1).1
        have h3 := live h2
        refine (so_step w0 htab hi hN2 h2 fr W hW).mono ?_
        rintro e w' ⟨hu, y', hy', hM'⟩
        refine ⟨hu, y', ?_, ?_, hM'⟩
        · rcases hy' with h4 | ⟨r', -, h4⟩
          · exact Or.inl h4
          · exact Or.inr ⟨r', h4⟩
        · show (if y'.bs[0]? = some (-1) then 0 else rk y') < (if y.bs[0]? = some (-1) then 0 else rk y)
          rw [h3.1, if_neg ne_neg]
          rcases hy' with ⟨_, _, _, _, _, _, _, _, _, h4, _⟩ | ⟨r', hlt, h4⟩
          · rw [if_pos h4]; exact h3.2.1
          · have h5 := (hrk y' r' h4).2
            have h6 := (live h4).1
            rw [h6, if_neg ne_neg]
            omega
    · show (if x'.bs[0]? = some (-1) then 0 else rk x') ≤ 1000
      have h2 := live (hrk x' r hL).1
      rw [h2.1, if_neg ne_neg]; exact h2.2.2
    · rintro e w' ⟨hu, y', hy', hb', hM'⟩
      rcases hy' with ⟨t, S, o, d, h, E, hk, hkey, hv, -, hnw⟩ | ⟨r', h4⟩
      · refine ⟨hu, y', d, ?_, hM'⟩
        have := E.lnE R h (by omega)
        rw [hk, hkey, hv] at this
        rw [eT]; exact this
      · rw [(live h4).1] at hb'; exact absurd hb' ne_neg

theorem lone_any (sv : Value) (os : List Ro) (w : World) (htab : Tab w) (hT : ORd w sv os) (hok : ∀ t ∈ os, t.ok) (hlen : os.length ≤ 262144) :
    Calls Tryz.prog 4 #[sv] w fun e w' => e = .returned (.bool true) ∧ Below w.heap.size w w' := by
  obtain ⟨rk, G⟩ := good_ex
  exact lone_gen sv os (InvG false) rk RsI LbI w htab hT hok hlen G fun W ht => lnI W ht
end Go.Proofs.YtajobgmnmbnhiaaGreatDoor.Sap
