/- WHAT IS PROVED HERE: plain facts: over pages that stand, each look of a Get and of a Scan leads on, and what it has at its end is what the map has; the pieces of a Scan that has ended (no program's function is walked). Conditions: none but those named at each theorem. -/
import Derived.Test.YtajobgmnmbnhiaaGreatDoorPt16
import Derived.Test.YtajobgmnmbnhiaaGreatDoorPt20
import Derived.Deep.RegionHeld3
namespace Go.Proofs.YtajobgmnmbnhiaaGreatDoor.Sap
open Go.RowKit
def scK (s : St) (n : Nd) : List Int := adK n.ks (wantV s) s.val s.keys n.ks.length
def scV (s : St) (n : Nd) : List Int := adV n.ks n.vs (wantV s) s.val s.keys s.vals n.ks.length
def scB (s : St) (n : Nd) : Int := if 12 ≤ (scK s n).length then (scK s n).getLast?.getD 0 + 1 else if s.val + 1 < n.hi then s.val + 1 else n.hi
def scS (s : St) (n : Nd) : St := { s with keys := scK s n, vals := scV s n, bel := s.bel ++ [scB s n], pts := s.pts ++ [s.step] }
def scEnd (s : St) (n : Nd) : Bool := decide (12 ≤ (scK s n).length) || decide (scB s n = s.val + 1)
def scO (s : St) (n : Nd) : Out := if scEnd s n then .fin (decide (0 < (scK s n).length)) (scK s n).length s.step (scK s n) (scV s n) ((scS s n).bel.zip (scS s n).pts) else .on { scS s n with pg := n.lk, step := s.step + 1 }
theorem adK_len (ks : List Int) (l v : Int) (K : List Int) (k : Nat) (h : K.length ≤ 12) : (adK ks l v K k).length ≤ 12 := by
  induction k with
  | zero => exact h
  | succ k ih =>
    unfold adK
    split
    · rename_i hc; rw [List.length_append]; simp; omega
    · exact ih
def rng (a b : Int) (x : Int × Int) : Bool := decide (a ≤ x.1) && decide (x.1 < b)
def Asc (Z : List (Int × Int)) : Prop := Z.Pairwise (fun x y => x.1 < y.1)
theorem asc_filter {Z : List (Int × Int)} (p : Int × Int → Bool) (h : Asc Z) : Asc (Z.filter p) := List.Pairwise.filter p h
theorem filter_take {Z : List (Int × Int)} {a c : Int} {n : Nat} {y : Int × Int} (hZ : Asc Z) (hy : ((Z.filter (rng a c)).take n).getLast? = some y) : Z.filter (rng a (y.1 + 1)) = (Z.filter (rng a c)).take n := by
  obtain ⟨F, hF⟩ : ∃ F, Z.filter (rng a c) = F := ⟨_, rfl⟩
  have hA : Asc F := hF ▸ asc_filter _ hZ
  rw [hF] at hy ⊢
  have hyF : y ∈ F.take n := List.mem_of_getLast? hy
  have hyc : y.1 < c := by
    have := List.mem_of_mem_take hyF
    rw [← hF] at this
    have := (List.mem_filter.1 this).2
    simp [rng] at this; exact this.2
  have e : Z.filter (rng a (y.1 + 1)) = F.filter (fun x => decide (x.1 < y.1 + 1)) := by
    rw [← hF, List.filter_filter]
    refine List.filter_congr fun x _ => ?_
    simp only [rng]
    rw [Bool.eq_iff_iff]
    simp only [Bool.and_eq_true, decide_eq_true_eq]
    omega
  rw [e]
  conv => lhs; rw [← List.take_append_drop n F]
  rw [List.filter_append]
  have hsp : Asc (F.take n ++ F.drop n) := by rw [List.take_append_drop]; exact hA
  obtain ⟨p1, p2, p3⟩ := List.pairwise_append.1 hsp
  rw [List.filter_eq_self.2, List.filter_eq_nil_iff.2, List.append_nil]
  · intro x hx
    have := p3 y hyF x hx
    simp; omega
  · intro x hx
    obtain ⟨pre, hpre⟩ := List.getLast?_eq_some_iff.1 hy
    rw [hpre] at hx p1
    rcases List.mem_append.1 hx with hx | hx
    · have := (List.pairwise_append.1 p1).2.2 x hx y (by simp)
      simp; omega
    · rw [List.mem_singleton] at hx; subst hx
      simp; omega
theorem zip_snoc {a b : List Int} {x y : Int} (h : a.length = b.length) : (a ++ [x]).zip (b ++ [y]) = a.zip b ++ [(x, y)] := by
  rw [List.zip_append h]; rfl
theorem ad_spec (ks vs : List Int) (l v : Int) (K V : List Int) (k : Nat) (hl : ks.length = vs.length) (hk : k ≤ ks.length) (hKV : K.length = V.length) (h12 : K.length ≤ 12) :
    (adK ks l v K k).length = (adV ks vs l v K V k).length ∧ (adK ks l v K k).zip (adV ks vs l v K V k) = (K.zip V ++ ((ks.zip vs).take k).filter (rng l (v + 1))).take 12 := by
  induction k with
  | zero =>
    refine ⟨hKV, ?_⟩
    simp only [adK, adV, List.take_zero, List.filter_nil, List.append_nil]
    rw [List.take_of_length_le]
    rw [List.length_zip]; omega
  | succ k ih =>
    obtain ⟨ih1, ih2⟩ := ih (by omega)
    have hk1 : k < ks.length := by omega
    have hk2 : k < vs.length := by omega
    have hz : (ks.zip vs)[k]? = some (ks[k], vs[k]) := by rw [List.getElem?_zip_eq_some]; exact ⟨List.getElem?_eq_getElem hk1, List.getElem?_eq_getElem hk2⟩
    obtain ⟨R, hR⟩ : ∃ R, K.zip V ++ ((ks.zip vs).take k).filter (rng l (v + 1)) = R := ⟨_, rfl⟩
    rw [hR] at ih2
    have hlen : ((adK ks l v K k).zip (adV ks vs l v K V k)).length = (adK ks l v K k).length := by rw [List.length_zip, ih1, Nat.min_self]
    have hlR : (adK ks l v K k).length = min 12 R.length := by rw [← hlen, ih2, List.length_take]
    rw [List.take_add_one (l := ks.zip vs) (i := k), hz, Option.toList_some, List.filter_append, ← List.append_assoc, hR]
    simp only [adK, adV, List.getElem?_eq_getElem hk1, List.getElem?_eq_getElem hk2, Option.getD_some]
    by_cases hc : l ≤ ks[k] ∧ ks[k] ≤ v
    · have er : rng l (v + 1) (ks[k], vs[k]) = true := by simp [rng]; omega
      rw [List.filter_cons, if_pos er, List.filter_nil]
      by_cases h3 : (adK ks l v K k).length < 12
      · rw [if_pos ⟨hc.1, hc.2, h3⟩, if_pos ⟨hc.1, hc.2, h3⟩]
        refine ⟨by rw [List.length_append, List.length_append, ih1]; rfl, ?_⟩
        rw [zip_snoc ih1, ih2, List.take_of_length_le (by omega), List.take_of_length_le (by rw [List.length_append]; simp; omega)]
      · rw [if_neg (fun e => h3 e.2.2), if_neg (fun e => h3 e.2.2)]
        refine ⟨ih1, ?_⟩
        rw [ih2, List.take_append_of_le_length (by omega)]
    · have er : rng l (v + 1) (ks[k], vs[k]) = false := by simp [rng]; omega
      have hf : [(ks[k], vs[k])].filter (rng l (v + 1)) = [] := by simp [er]
      rw [hf, List.append_nil, if_neg (fun e => hc ⟨e.1, e.2.1⟩), if_neg (fun e => hc ⟨e.1, e.2.1⟩)]
      exact ⟨ih1, ih2⟩
def GeP (p0 : Nat) (rk : Nat → Nat) (lo : Nat → Int) (key : Int) (j : Nat) (s : St) : Prop := ∃ p : Nat, s = ⟨1, key, 0, j, p, [], [], [], [], ⟨#[]⟩, 0, [], [], 0, 0, 0, 0, 0⟩ ∧ p < p0 ∧ lo p ≤ key ∧ j + rk p < p0
theorem GeP.ok {p0 : Nat} {rk : Nat → Nat} {lo : Nat → Int} {key : Int} {j : Nat} {s : St} (h : GeP p0 rk lo key j s) (h64 : p0 ≤ 64) (hk1 : 1 ≤ key) (hk2 : key ≤ 9999) : StOk s := by
  obtain ⟨p, rfl, hp, -, hj⟩ := h
  refine ⟨by simp [opR]; omega, by unfold Fr; simp, by unfold Fr; simp only; omega, by simp only; omega, by simp, by simp, by simp, rfl, by simp, rfl, by simp, rfl, Or.inr ⟨rfl, rfl, rfl, rfl⟩, by unfold Fr; simp, by unfold Fr; simp, by unfold Fr; simp, by unfold Fr; simp, by unfold Fr; simp, by unfold Fr; simp, (show (⟨#[]⟩ : ByteArray).size ≤ 47 by decide), Or.inl ⟨rfl, rfl, rfl⟩, by simp, by simp, Or.inr rfl, rfl, by simp, by simp, Or.inl ⟨rfl, rfl, rfl, rfl⟩⟩
structure ScP (p0 : Nat) (K V : List Int) (rk : Nat → Nat) (lo : Nat → Int) (key val : Int) (j : Nat) (s : St) : Prop where
  kd : s.kd = 4
  ek : s.key = key
  ev : s.val = val
  step : s.step = (j : Int)
  pg : ∃ p : Nat, s.pg = (p : Int) ∧ p < p0 ∧ lo p ≤ wantV s ∧ j + rk p < p0
  kl : s.keys.length = s.vals.length
  k12 : s.keys.length < 12
  zip : s.keys.zip s.vals = (K.zip V).filter (rng key (wantV s))
  vals : ∀ x ∈ s.vals, 0 ≤ x ∧ x ≤ 9999
  bl : s.bel.length = s.pts.length
  bj : s.bel.length ≤ j
  bel : keysOk (val + 1) (key + 1) s.bel = true
  pts : keysOk (j : Int) 0 s.pts = true
  sw : s.sw = ⟨#[]⟩ ∧ s.ver = 0 ∧ s.laid = 0
  sp : s.sp = [] ∧ s.sv = []
  ent : s.lv = 0 ∧ s.low = 0 ∧ s.ch = 0 ∧ s.pt = 0
theorem mem_of_zip {a b : List Int} (h : a.length = b.length) {x : Int} (hx : x ∈ a) : ∃ y, (x, y) ∈ a.zip b := by
  obtain ⟨i, hi⟩ := List.mem_iff_getElem?.1 hx
  have hil := (List.getElem?_eq_some_iff.1 hi).1
  exact ⟨b[i], zip_at hi (List.getElem?_eq_getElem (by omega))⟩
theorem ScP.keysIn {p0 : Nat} {K V : List Int} {rk : Nat → Nat} {lo : Nat → Int} {key val : Int} {j : Nat} {s : St} (h : ScP p0 K V rk lo key val j s) (hK : keysOk 10000 1 K = true) : ∀ x ∈ s.keys, 1 ≤ x ∧ x ≤ 9999 := by
  intro x hx
  obtain ⟨y, hy⟩ := mem_of_zip h.kl hx
  rw [h.zip] at hy
  have := keysOk_all _ _ _ hK x (mem_zip_key (List.mem_filter.1 hy).1)
  omega
theorem ScP.ok {p0 : Nat} {K V : List Int} {rk : Nat → Nat} {lo : Nat → Int} {key val : Int} {j : Nat} {s : St} (h : ScP p0 K V rk lo key val j s) (hK : keysOk 10000 1 K = true) (h64 : p0 ≤ 64) (hk1 : 1 ≤ key) (hk2 : key ≤ val) (hk3 : val ≤ 9999) : StOk s := by
  obtain ⟨p, e1, e2, e3, e4⟩ := h.pg
  have hkd := h.kd
  have hkey := h.ek
  have hval := h.ev
  have hst := h.step
  have hbj := h.bj
  refine ⟨by simp [opR]; omega, by unfold Fr; omega, by unfold Fr; omega, by omega, fun x hx => ?_, fun x hx => ?_, fun x hx => ?_, h.kl, h.k12, h.bl, by omega, by rw [hkey, hval]; exact h.bel, Or.inl hkd, by have := h.sw.2.1; unfold Fr; omega, by have := h.sw.2.2; unfold Fr; omega, by have := h.ent.1; unfold Fr; omega, by have := h.ent.2.1; unfold Fr; omega, by have := h.ent.2.2.1; unfold Fr; omega, by have := h.ent.2.2.2; unfold Fr; omega, by rw [h.sw.1]; decide, Or.inl h.sw, by rw [h.sp.1]; simp, by rw [h.sp.2]; simp, Or.inr h.sp.1, by rw [h.sp.1, h.sp.2], by rw [h.sp.1]; decide, by rw [h.sp.1, h.sw.2.2]; decide, Or.inl h.ent⟩
  · have := h.keysIn hK x hx; unfold Fr; omega
  · have := h.vals x hx; unfold Fr; omega
  · have := keysOk_all _ _ _ h.pts x hx; unfold Fr; omega
theorem infoCut : (Tryz.prog.info? 76).map (fun i => (i.zero, i.size, i.bytes)) = some (some (.agg #[.int .i64 0, .int .i64 0]), 2, 16) := by kernel_rfl
theorem cutc_snoc (cs : List (Int × Int)) (c : Int × Int) : cutc (cs ++ [c]) = cutc cs ++ [.int .i64 c.1, .int .i64 c.2] := by simp [cutc]
set_option maxRecDepth 100000 in
set_option maxHeartbeats 6400000 in
theorem scanned_any (s : St) (kv vv bv pv xv yv : Value) (w : World) (hv : StV w s kv vv bv pv xv yv) (hl : s.bel.length = s.pts.length) (h64 : s.bel.length ≤ 64) :
    Calls Tryz.prog 104 #[.agg #[.int .i64 s.kd, .int .i64 s.key, .int .i64 s.val, .int .i64 s.step, .int .i64 s.pg, kv, vv, bv, pv, .string s.sw, .int .i64 s.ver, xv, yv, .int .i64 s.laid, .int .i64 s.lv, .int .i64 s.low, .int .i64 s.ch, .int .i64 s.pt]] w fun e w' => ∃ cv, e = .returned (.agg #[.int .i64 0, .bool (decide (0 < s.keys.length)), .int .i64 s.keys.length, .int .i64 s.step, kv, vv, cv]) ∧ M w w.heap.size w' [.row 76 2 cv s.bel.length (cutc (s.bel.zip s.pts))] := by
  obtain ⟨j0, hj0, hy0, hy1, hy2⟩ := info_parts infoCut
  obtain ⟨ak, ck, rfl⟩ := hv.keys.len
  obtain ⟨av, cv0, rfl⟩ := hv.vals.len
  obtain ⟨ab, cb, rfl⟩ := hv.bel.len
  obtain ⟨ap, cp, rfl⟩ := hv.pts.len
  obtain ⟨ax, cx, rfl⟩ := hv.sp.len
  obtain ⟨ay, cy, rfl⟩ := hv.sv.len
  have HB := hideIt hv.bel
  have HP := hideIt hv.pts
  obtain ⟨m, hm⟩ : ∃ m, s.bel.length = m := ⟨_, rfl⟩
  obtain ⟨kl, hkl⟩ : ∃ m, s.keys.length = m := ⟨_, rfl⟩
  obtain ⟨vl, hvl⟩ : ∃ m, s.vals.length = m := ⟨_, rfl⟩
  have HM := hideIt hm
  have HL := hideIt hl
  rw [← hl] at HP ⊢
  rw [hm] at HB HP h64 ⊢
  rw [hkl, hvl]
  clear hv hl hm hkl hvl
  have A0 := hideIt (M.rowNil (e := 76) (z := 2) ((((M.start w).alloc #[.int .i64 s.kd, .int .i64 s.key, .int .i64 s.val, .int .i64 s.step, .int .i64 s.pg, .slice ak kl ck, .slice av vl cv0, .slice ab m cb, .slice ap m cp, .string s.sw, .int .i64 s.ver, .slice ax s.sp.length cx, .slice ay s.sv.length cy, .int .i64 s.laid, .int .i64 s.lv, .int .i64 s.low, .int .i64 s.ch, .int .i64 s.pt] 92).alloc #[.int .i64 0, .bool false, .int .i64 0, .int .i64 0, .slice none 0 0, .slice none 0 0, .slice none 0 0] 46).alloc #[.int .i64 0, .bool (decide (0 < kl)), .int .i64 kl, .int .i64 s.step, .slice ak kl ck, .slice av vl cv0, .slice none 0 0] 46))
  rw [alloc_size, alloc_size] at A0
  go_enter Tryz.func104, Tryz.ntmps104
  go_wp2
  go_loopw [4] (fun i wr => ∃ k : Nat, ∃ cv : Value, k ≤ m ∧ i = .int .i64 k ∧ Hid (M w w.heap.size wr [.blk (w.heap.size + 1 + 1) #[.int .i64 0, .bool (decide (0 < kl)), .int .i64 kl, .int .i64 s.step, .slice ak kl ck, .slice av vl cv0, cv] 46, .row 76 2 cv k (cutc ((s.bel.zip s.pts).take k)), .blk (w.heap.size + 1) #[.int .i64 0, .bool false, .int .i64 0, .int .i64 0, .slice none 0 0, .slice none 0 0, .slice none 0 0] 46, .blk w.heap.size #[.int .i64 s.kd, .int .i64 s.key, .int .i64 s.val, .int .i64 s.step, .int .i64 s.pg, .slice ak kl ck, .slice av vl cv0, .slice ab m cb, .slice ap m cp, .string s.sw, .int .i64 s.ver, .slice ax s.sp.length cx, .slice ay s.sv.length cy, .int .i64 s.laid, .int .i64 s.lv, .int .i64 s.low, .int .i64 s.ch, .int .i64 s.pt] 92])) (fun i _ => m - (intOf i).toNat)
  case atStart =>
    exact ⟨0, .slice none 0 0, Nat.zero_le _, rfl, A0.out⟩
  case round =>
    clear A0
    obtain ⟨k, cv, hk, rfl, hM⟩ := hrel
    obtain ⟨ca, cc, rfl⟩ := As.form0 (hM.out.get (i := 1) rfl)
    have c6 := hM.out.cell (i := 0) rfl 6 (.slice ca k cc) rfl
    have f6 := hM.out.free (i := 0) rfl 6
    have s5 := hM.out.cell (i := 3) rfl 7 (.slice ab m cb) rfl
    have s6 := hM.out.cell (i := 3) rfl 8 (.slice ap m cp) rfl
    have hlg := hM.out.lt (i := 0) rfl
    by_cases hlt : k < m
    · obtain ⟨b1, o1, rfl, -, x1⟩ := HB.out.elem k hlt
      obtain ⟨b2, o2, rfl, -, x2⟩ := HP.out.elem k hlt
      obtain ⟨a, ha⟩ : ∃ y, s.bel[k]?.getD 0 = y := ⟨_, rfl⟩
      obtain ⟨b, hb⟩ : ∃ y, s.pts[k]?.getD 0 = y := ⟨_, rfl⟩
      rw [ha] at x1
      rw [hb] at x2
      have HX1 := hideIt x1
      have HX2 := hideIt x2
      have HCT : Hid (cutc ((s.bel.zip s.pts).take (k + 1)) = cutc ((s.bel.zip s.pts).take k) ++ [.int .i64 a, .int .i64 b]) := by
        have hk1 : k < s.bel.length := by rw [HM.out]; exact hlt
        have hk2 : k < s.pts.length := by rw [← HL.out]; exact hk1
        rw [List.getElem?_eq_getElem hk1] at ha
        rw [List.getElem?_eq_getElem hk2] at hb
        simp only [Option.getD_some] at ha hb
        have hz : (s.bel.zip s.pts)[k]? = some (a, b) := by rw [List.getElem?_zip_eq_some]; exact ⟨by rw [List.getElem?_eq_getElem hk1, ha], by rw [List.getElem?_eq_getElem hk2, hb]⟩
        unfold Hid
        rw [List.take_add_one, hz, Option.toList_some, cutc_snoc]
      have y1 := x1 _ hM.out.bl
      have y2 := x2 _ hM.out.bl
      have hb1 := HB.out.blk_lt k hlt
      have hb2 := HP.out.blk_lt k hlt
      have hkk : (0 : Int) ≤ (k : Int) := by omega
      have hkl : (k : Int) < (m : Int) := by omega
      have hn1 : b1 ≠ w.heap.size + 1 + 1 := by omega
      have hn2 : b2 ≠ w.heap.size + 1 + 1 := by omega
      have hn3 : w.heap.size + 1 + 1 ≠ b1 := by omega
      have hn4 : w.heap.size + 1 + 1 ≠ b2 := by omega
      have hw1 : w.heap.size < wr.heap.size := by omega
      have hw2 : b1 < wr.heap.size := by omega
      have hw3 : b2 < wr.heap.size := by omega
      clear x1 x2 ha hb
      go_wp2
      go_region_law (refine step_append_lies _ rfl _ _ 44 rfl w.heap.size 76 j0 (.agg #[.int .i64 0, .int .i64 0]) 2 16 Tryz.underlying44 hj0 hy0 hy1 hy2 rfl (by decide) _ k (cutc ((s.bel.zip s.pts).take k)) rfl (World.ownsRow.alloc (hM.out.get (i := 1) rfl) _) ⟨_, 0, none⟩ 1 1 [.int .i64 a, .int .i64 b] rfl rfl (World.news_of_block (heap_alloc_new _ _)) (by simp [Value.oneCell']) (by omega) (by unfold maxLen; omega) (by omega) (by have := hM.out.sz; simp at this ⊢; omega) _ rfl ?_; intro g1 cap1 w5 hown hgrow hat hlt1; rw [← HCT.out] at hown; have hm := (hM.out.allocd _).drew.lies (i := 1) rfl hown hgrow hat; clear c6 f6 s5 s6 y1 y2 hown hgrow hat; have c6 := hm.cell (i := 0) rfl 6 (.slice ca k cc) rfl; have f6 := hm.free (i := 0) rfl 6; have s5 := hm.cell (i := 3) rfl 7 (.slice (some ⟨b1, o1, none⟩) m cb) rfl; have s6 := hm.cell (i := 3) rfl 8 (.slice (some ⟨b2, o2, none⟩) m cp) rfl; have y1 := HX1.out _ hm.bl; have y2 := HX2.out _ hm.bl; have H1 := hideIt (hm.store (i := 0) (j := 6) rfl (.slice (some ⟨g1, 0, none⟩) (k + 1) cap1) rfl); clear hm)
      all_goals
        go_wp2
        go_roundw
        case rel => exact ⟨k + 1, _, by omega, by go_num, H1.out⟩
        case measure => simp [intOf]; omega
    · obtain rfl : k = m := by omega
      have r := fun j v hv => hM.out.cell (i := 2) rfl j v hv
      have hz : (s.bel.zip s.pts).take k = s.bel.zip s.pts := List.take_of_length_le (by rw [List.length_zip, HM.out]; omega)
      rw [hz] at hM
      have HN := hideIt hM
      have a0 := HN.out.out.cell (i := 0) rfl 0 (.int .i64 0) rfl
      have a1 := HN.out.out.cell (i := 0) rfl 1 (.bool (decide (0 < kl))) rfl
      have a2 := HN.out.out.cell (i := 0) rfl 2 (.int .i64 kl) rfl
      have a3 := HN.out.out.cell (i := 0) rfl 3 (.int .i64 s.step) rfl
      have a4 := HN.out.out.cell (i := 0) rfl 4 (.slice ak kl ck) rfl
      have a5 := HN.out.out.cell (i := 0) rfl 5 (.slice av vl cv0) rfl
      have r0 := r 0 (.int .i64 0) rfl
      have r1 := r 1 (.bool false) rfl
      have r2 := r 2 (.int .i64 0) rfl
      have r3 := r 3 (.int .i64 0) rfl
      have r4 := r 4 (.slice none 0 0) rfl
      have r5 := r 5 (.slice none 0 0) rfl
      have r6 := r 6 (.slice none 0 0) rfl
      have g := fun j => HN.out.out.free (i := 2) rfl j
      have g0 := g 0
      have g1 := g 1
      have g2 := g 2
      have g3 := g 3
      have g4 := g 4
      have g5 := g 5
      have g6 := g 6
      have S7 := hideIt ((HN.out.out.store7 (i := 2) rfl (.int .i64 0) (.bool (decide (0 < kl))) (.int .i64 kl) (.int .i64 s.step) (.slice ak kl ck) (.slice av vl cv0) (.slice ca k cc)))
      clear r g hz hM HN
      go_wp2
      refine bodyPost_ret (v := .agg #[.int .i64 0, .bool (decide (0 < kl)), .int .i64 kl, .int .i64 s.step, .slice ak kl ck, .slice av vl cv0, .slice ca k cc]) (by simp [results, Tryz.results104, go_sem, *]) rfl ⟨_, rfl, ?_⟩
      exact S7.out.sub (List.Sublist.trans (List.Sublist.cons_cons _ (List.nil_sublist _)) (List.sublist_cons_self _ _))
end Go.Proofs.YtajobgmnmbnhiaaGreatDoor.Sap
