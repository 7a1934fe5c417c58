/- WHAT IS PROVED HERE: plain facts on the texts of frames: numbers with a comma behind each, lists with their length ahead (no program). Conditions: none but those named at each theorem. -/
import Derived.Test.YtajobgmnmbnhiaaGreatDoorPt08
import Derived.Lib.ItoaLen
namespace Go.Proofs.YtajobgmnmbnhiaaGreatDoor.Sap
open Go.RowKit
structure St where
  kd : Int
  key : Int
  val : Int
  step : Int
  pg : Int
  keys : List Int
  vals : List Int
  bel : List Int
  pts : List Int
  sw : ByteArray
  ver : Int
  sp : List Int
  sv : List Int
  laid : Int
  lv : Int
  low : Int
  ch : Int
  pt : Int
def nb (n : Int) : List UInt8 := Lib.itoa n ++ [44]
def nbs (xs : List Int) : List UInt8 := (xs.map nb).flatten
def lst (xs : List Int) : List UInt8 := nb xs.length ++ nbs xs
def frT (s : St) : List UInt8 := nb s.kd ++ (nb s.key ++ (nb s.val ++ (nb s.step ++ (nb s.pg ++ (lst s.keys ++ (lst s.vals ++ (lst s.bel ++ (lst s.pts ++ (nb s.ver ++ (lst s.sp ++ (lst s.sv ++ (nb s.laid ++ (nb s.lv ++ (nb s.low ++ (nb s.ch ++ (nb s.pt ++ (nb (s.sw.size : Int) ++ (s.sw.data.toList))))))))))))))))))
def I64 (n : Int) : Prop := -9223372036854775808 ≤ n ∧ n ≤ 9223372036854775807
theorem nb_len (n : Int) (h : I64 n) : (nb n).length ≤ 22 := by
  have := Lib.itoa_length_le n h.1 h.2
  simp [nb]; omega
theorem nbs_snoc (xs : List Int) (k : Nat) (hk : k < xs.length) : nbs (xs.take (k + 1)) = nbs (xs.take k) ++ nb (xs[k]?.getD 0) := by
  unfold nbs
  rw [List.take_add_one, List.getElem?_eq_getElem hk, Option.toList_some, List.map_append, List.flatten_append]
  simp
theorem nbs_len (xs : List Int) (h : ∀ x ∈ xs, I64 x) : (nbs xs).length ≤ 22 * xs.length := by
  induction xs with
  | nil => simp [nbs]
  | cons x r ih =>
    have h1 := nb_len x (h x (by simp))
    have h2 := ih (fun y hy => h y (by simp [hy]))
    unfold nbs at h2 ⊢
    simp only [List.map_cons, List.flatten_cons, List.length_append, List.length_cons]
    omega
theorem lst_len (xs : List Int) (h : ∀ x ∈ xs, I64 x) (hl : xs.length ≤ 1000000) : (lst xs).length ≤ 22 * xs.length + 22 := by
  have h1 := nb_len xs.length (by unfold I64; omega)
  have h2 := nbs_len xs h
  unfold lst
  rw [List.length_append]
  omega
def opR (k key v : Int) : Bool := decide (1 ≤ key) && decide (key ≤ 9999) && (decide (k = 1) || decide (k = 3) || (decide (k = 2) && decide (0 ≤ v) && decide (v ≤ 9999)) || (decide (k = 4) && decide (key ≤ v) && decide (v ≤ 9999)))
theorem opR_hi (k key v : Int) (h : 9999 < key) : Hid (opR k key v = false) := by
  have : decide (key ≤ 9999) = false := by simp; omega
  unfold Hid opR; rw [this]; simp
theorem opR_lo (k key v : Int) (h : key < 1) : Hid (opR k key v = false) := by
  have : decide (1 ≤ key) = false := by simp; omega
  unfold Hid opR; rw [this]; simp
theorem first_any (w : World) : Calls Tryz.prog 7 #[] w fun e w' => e = .returned (.string ⟨#[48, 45, 45, 45, 45, 45, 45]⟩) ∧ w' = w := by
  go_enter Tryz.func7, Tryz.ntmps7
  go_wp2
  go_ret
  exact ⟨rfl, rfl⟩
set_option maxRecDepth 100000 in
set_option maxHeartbeats 800000 in
theorem rightOp_any (k key v : Int) (w : World) :
    Calls Tryz.prog 40 #[.agg #[.int .i64 k, .int .i64 key, .int .i64 v]] w fun e w' => e = .returned (.bool (opR k key v)) ∧ Below w.heap.size w w' := by
  have hb : Below w.heap.size w (w.alloc (.cells #[.int .i64 k, .int .i64 key, .int .i64 v] 36)) := (Below.refl _ _).alloc (Nat.le_refl _) _
  by_cases h1 : 1 ≤ key
  · by_cases h2 : key ≤ 9999
    · by_cases k1 : k = 1
      · subst k1
        go_enter Tryz.func40, Tryz.ntmps40
        go_wp2
        go_ret
        refine ⟨ret_bool ?_, hb⟩
        simp [opR, h1, h2]
      by_cases k3 : k = 3
      · subst k3
        go_enter Tryz.func40, Tryz.ntmps40
        go_wp2
        go_ret
        refine ⟨ret_bool ?_, hb⟩
        simp [opR, h1, h2]
      by_cases k2 : k = 2
      · subst k2
        go_enter Tryz.func40, Tryz.ntmps40
        go_wp2
        all_goals go_ret
        all_goals refine ⟨ret_bool ?_, hb⟩
        all_goals (rw [Bool.eq_iff_iff]; simp [opR, h1, h2]; try omega)
      by_cases k4 : k = 4
      · subst k4
        go_enter Tryz.func40, Tryz.ntmps40
        go_wp2
        all_goals go_ret
        all_goals refine ⟨ret_bool ?_, hb⟩
        all_goals (rw [Bool.eq_iff_iff]; simp [opR, h1, h2]; try omega)
      have b1 : (k == 1) = false := by simp [k1]
      have b2 : (k == 2) = false := by simp [k2]
      have b3 : (k == 3) = false := by simp [k3]
      have b4 : (k == 4) = false := by simp [k4]
      go_enter Tryz.func40, Tryz.ntmps40
      go_wp2
      go_ret
      refine ⟨ret_bool ?_, hb⟩
      simp [opR, k1, k2, k3, k4]
    · have HN := opR_hi k key v (by omega)
      go_enter Tryz.func40, Tryz.ntmps40
      go_wp2
      go_ret
      exact ⟨ret_bool HN.out.symm, hb⟩
  · have HN := opR_lo k key v (by omega)
    go_enter Tryz.func40, Tryz.ntmps40
    go_wp2
    go_ret
    exact ⟨ret_bool HN.out.symm, hb⟩
def Txt (e : Ending) (t : List UInt8) : Prop := ∃ c : ByteArray, e = .returned (.string c) ∧ c.data.toList = t
set_option maxRecDepth 100000 in
set_option maxHeartbeats 800000 in
theorem addNumber_any (b : ByteArray) (n : Int) (w : World) (htab : Tab w) (hb : b.size ≤ 100000) (hn : I64 n) :
    Calls Tryz.prog 57 #[.string b, .int .i64 n] w fun e w' => Txt e (b.data.toList ++ nb n) ∧ Below w.heap.size w w' := by
  have hl := Lib.itoa_length_le n hn.1 hn.2
  go_enter Tryz.func57, Tryz.ntmps57
  go_wp2_with (go_at_call 56; refine (Tryz.strconv_Itoa n hn.1 hn.2 _ htab).mono ?_; rintro e w1 ⟨rfl, kk, os, hw⟩; have hbel := hw ▸ Lib.below_grow w.heap.size w (Nat.le_refl _) kk os; clear hw; obtain ⟨b0, hb0⟩ : ∃ b0, b0 = (ByteArray.mk (Lib.itoa n).toArray) := ⟨_, rfl⟩; rw [← hb0]; have HB0 : Hid (b0.data.toList = Lib.itoa n) := (by unfold Hid; rw [hb0]); have hs0 : b0.size ≤ 21 := (by rw [← ba_size, HB0.out]; exact hl); clear hb0)
  all_goals go_ret
  all_goals refine ⟨⟨_, rfl, ?_⟩, hbel⟩
  all_goals (rw [ba_append, ba_append, HB0.out]; unfold nb; simp)
theorem cellOf {w : World} {b : Nat} {arr : Array Value} {t : TypeId} {f : Nat × Nat} (h : w.heap[b]? = some (.cells arr t f)) (i : Nat) (v : Value) (hv : arr[i]? = some v) : w.cell? ⟨b, i, none⟩ = some v := by
  simp [World.cell?, h, hv]
theorem txt_size {c : ByteArray} {t : List UInt8} (h : c.data.toList = t) : c.size = t.length := by rw [← h, ba_size]
theorem rd_nil (w : World) : Rd w (.slice none 0 0) [] := ⟨none, 0, rfl, fun h => by simp at h⟩
theorem opR_kind (k key v : Int) (h : opR k key v = true) : k = 1 ∨ k = 3 ∨ k = 2 ∨ k = 4 := by
  simp only [opR, Bool.and_eq_true, Bool.or_eq_true, decide_eq_true_eq] at h
  omega
theorem gr_app {w w1 w2 : World} {g : Nat} {o : Obj} {row : Option Nat} (h : w.grownBy w1 (some g)) (k : (w1.alloc o).grownBy w2 row) (hr : ∀ j, row = some j → w.heap.size ≤ j) : w.grownBy w2 (some g) := by
  have hs := k.size
  have h1 := h.size
  simp at hs
  refine ⟨k.os.trans h.os, k.tape.trans h.tape, k.output.trans h.output, by omega, fun j hj hne => ?_⟩
  rw [k.block j (by simp; omega) (fun e => by have := hr j e.symm; omega), Below.heap_alloc _ _ _ (by omega)]
  exact h.block j hj hne
theorem owns_gr {w w' : World} {B g : Nat} {e : TypeId} {v : Value} {n : Nat} {xs : List Value} (h : w.ownsRow B e 1 v n xs) (hg : w.grownBy w' (some g)) (hlt : g < B) : w'.ownsRow B e 1 v n xs := by
  refine h.kept hg ?_
  cases hv : v.ownBlock with
  | none => exact Or.inl rfl
  | some k => exact Or.inr fun e => by have := (h.lt k hv).1; cases e; omega
def Fr (x : Int) : Prop := 0 ≤ x ∧ x ≤ 100000000000000000
theorem Fr.i {x : Int} (h : Fr x) : I64 x := by unfold Fr at h; unfold I64; omega
theorem keysOk_all (hi l : Int) (ks : List Int) (h : keysOk hi l ks = true) : ∀ k ∈ ks, l ≤ k ∧ k < hi := by
  induction ks generalizing l with
  | nil => intro k hk; cases hk
  | cons x r ih =>
    simp only [keysOk, Bool.and_eq_true, decide_eq_true_eq] at h
    intro k hk
    rcases List.mem_cons.1 hk with rfl | hk
    · omega
    · have := ih (x + 1) h.2.2 k hk; omega
def lo (l : Int) (ks : List Int) (k : Nat) : Int := match k with | 0 => l | j + 1 => ks[j]?.getD 0 + 1
theorem keysOk_at (hi l : Int) (ks : List Int) (h : keysOk hi l ks = true) (k : Nat) (hk : k < ks.length) : lo l ks k ≤ ks[k]?.getD 0 ∧ ks[k]?.getD 0 < hi := by
  induction ks generalizing l k with
  | nil => simp at hk
  | cons x r ih =>
    simp only [keysOk, Bool.and_eq_true, decide_eq_true_eq] at h
    cases k with
    | zero => simp [lo]; omega
    | succ j =>
      have := ih (x + 1) h.2.2 j (by simpa using hk)
      cases j with
      | zero => simpa [lo] using this
      | succ i => simpa [lo] using this
theorem block_gr {w w' : World} {g b : Nat} {x : Obj} (h : w.heap[b]? = some x) (hg : w.grownBy w' (some g)) (hne : b ≠ g) : w'.heap[b]? = some x := by
  rw [hg.block b (lt_of_block h) (fun e => hne (Option.some.inj e))]; exact h
theorem own_sep {w : World} {B C : Nat} {e f : TypeId} {u v : Value} {n m : Nat} {xs ys : List Value} {w' : World} (h : w.ownsRow B e 1 u n xs) (k : w'.ownsRow C f 1 v m ys) (hC : w.heap.size ≤ C) : ∀ g, u.ownBlock = some g → v.ownBlock = some g → False := by
  intro g h1 h2
  have a := (h.lt g h1).2
  have b := (k.lt g h2).1
  omega
theorem drop_next {s : ByteArray} {a : Nat} {x y : List UInt8} (h : s.data.toList.drop a = x ++ y) : s.data.toList.drop (a + x.length) = y := by
  rw [← List.drop_drop, h, List.drop_left]
theorem alloc_size (w : World) (o : Obj) : (w.alloc o).heap.size = w.heap.size + 1 := by simp
theorem Rd.blk_lt {w : World} {b off m cap : Nat} {xs : List Int} (h : Rd w (.slice (some ⟨b, off, none⟩) m cap) xs) (k : Nat) (hk : k < m) : b < w.heap.size := by
  obtain ⟨b1, o1, e, -, x1⟩ := h.elem k hk
  cases e
  have h1 := x1 w (Below.refl _ _)
  rcases Nat.lt_or_ge b w.heap.size with h2 | h2
  · exact h2
  · simp [World.cell?, Array.getElem?_eq_none h2] at h1
def ans0 : Array Value := #[.int .i64 0, .bool false, .int .i64 0, .int .i64 0, .slice none 0 0, .slice none 0 0, .slice none 0 0]
def fromV (bel : List Int) (key : Int) : Nat → Int
  | 0 => key
  | i + 1 => bel[i]?.getD 0
theorem cell_set_off (w : World) (b i j : Nat) (u : Value) (h : i ≠ j) : (w.setCell ⟨b, i, none⟩ u).drew.cell? ⟨b, j, none⟩ = w.cell? ⟨b, j, none⟩ := by
  show (w.setCell ⟨b, i, none⟩ u).cell? ⟨b, j, none⟩ = _
  simp only [World.cell?, World.setCell, Array.getElem?_modify, if_true]
  cases hw : w.heap[b]? with
  | none => rfl
  | some o => cases o <;> simp [h]
theorem cell_set_blk (w : World) (b c i j : Nat) (u : Value) (h : c ≠ b) : (w.setCell ⟨b, i, none⟩ u).drew.cell? ⟨c, j, none⟩ = w.cell? ⟨c, j, none⟩ := by
  show (w.setCell ⟨b, i, none⟩ u).cell? ⟨c, j, none⟩ = _
  exact World.cell?_of_block (Below.heap_setCell _ _ _ _ h)
set_option maxRecDepth 100000 in
set_option maxHeartbeats 800000 in
theorem addList_any (b : ByteArray) (v : Value) (xs : List Int) (w : World) (htab : Tab w) (hb : b.size ≤ 10000) (hr : Rd w v xs) (hl : xs.length ≤ 64) (hx : ∀ x ∈ xs, I64 x) :
    Calls Tryz.prog 58 #[.string b, v] w fun e w' => Txt e (b.data.toList ++ lst xs) ∧ Below w.heap.size w w' := by
  have HR := hideIt hr
  have HX := hideIt hx
  obtain ⟨ao, cap, rfl⟩ := hr.len
  obtain ⟨m, hm⟩ : ∃ m, xs.length = m := ⟨_, rfl⟩
  have HM := hideIt hm
  rw [hm] at HR hl ⊢
  clear hr hx hm
  go_enter Tryz.func58, Tryz.ntmps58
  go_wp2_with fail
  refine (addNumber_any b m w htab (by omega) (by unfold I64; omega)).mono ?_
  rintro e w1 ⟨⟨c, rfl, hc⟩, hb1⟩
  have HC := hideIt hc
  have HB := hideIt hb1
  have ht1 := htab.below hb1
  clear hc hb1
  go_wp2
  go_loopw [0, 5] (fun t i wr => ∃ k : Nat, ∃ c : ByteArray, k ≤ m ∧ i = .int .i64 k ∧ t = .string c ∧ Hid (c.data.toList = b.data.toList ++ (nb m ++ nbs (xs.take k))) ∧ Hid (Below w.heap.size w wr)) (fun t i _ => m - (intOf i).toNat)
  case atStart => exact ⟨0, c, Nat.zero_le _, rfl, rfl, by unfold Hid; rw [HC.out]; simp [nbs], HB.out⟩
  case round =>
    obtain ⟨k, c, hk, rfl, rfl, hc, hbw⟩ := hrel
    by_cases hlt : k < m
    · obtain ⟨b1, o1, rfl, -, x1⟩ := HR.out.elem k hlt
      have y1 := x1 _ hbw.out
      have hkk : (0 : Int) ≤ (k : Int) := by omega
      have hkl : (k : Int) < (m : Int) := by omega
      have hsz : c.size ≤ 100000 := by
        rw [← ba_size, hc.out, List.length_append, List.length_append, ba_size]
        have h1 := nb_len m (by unfold I64; omega)
        have h2 := nbs_len (xs.take k) (fun x hx => HX.out x (List.mem_of_mem_take hx))
        rw [List.length_take] at h2
        omega
      have hi : I64 (xs[k]?.getD 0) := HX.out _ (mem_at (by rw [HM.out]; exact hlt))
      clear x1
      go_wp2_with fail
      refine (addNumber_any c _ _ (htab.below hbw.out) hsz hi).mono ?_
      rintro e w2 ⟨⟨c2, rfl, hc2⟩, hb2⟩
      have HC2 := hideIt hc2
      have HB2 := hideIt (step hbw.out hb2)
      clear hc2 hb2
      go_wp2
      go_roundw
      case rel => exact ⟨k + 1, c2, by omega, by go_num, rfl, by unfold Hid; rw [HC2.out, hc.out, nbs_snoc xs k (by rw [HM.out]; exact hlt)]; simp [List.append_assoc], HB2.out⟩
      case measure => simp [intOf]; omega
    · have hkm : k = m := by omega
      go_wp2
      go_ret
      refine ⟨⟨c, rfl, ?_⟩, hbw.out⟩
      rw [hc.out, hkm]
      unfold lst
      rw [HM.out, ← HM.out, List.take_length]
structure StV (w : World) (s : St) (kv vv bv pv xv yv : Value) : Prop where
  keys : Rd w kv s.keys
  vals : Rd w vv s.vals
  bel : Rd w bv s.bel
  pts : Rd w pv s.pts
  sp : Rd w xv s.sp
  sv : Rd w yv s.sv
theorem StV.below {w w' : World} {s : St} {kv vv bv pv xv yv : Value} (h : StV w s kv vv bv pv xv yv) (hb : Below w.heap.size w w') : StV w' s kv vv bv pv xv yv := ⟨h.keys.below hb, h.vals.below hb, h.bel.below hb, h.pts.below hb, h.sp.below hb, h.sv.below hb⟩
structure StI (s : St) : Prop where
  kd : I64 s.kd
  key : I64 s.key
  val : I64 s.val
  step : I64 s.step
  pg : I64 s.pg
  ver : I64 s.ver
  laid : I64 s.laid
  lv : I64 s.lv
  low : I64 s.low
  ch : I64 s.ch
  pt : I64 s.pt
  keys : ∀ x ∈ s.keys, I64 x
  vals : ∀ x ∈ s.vals, I64 x
  bel : ∀ x ∈ s.bel, I64 x
  pts : ∀ x ∈ s.pts, I64 x
  sp : ∀ x ∈ s.sp, I64 x
  sv : ∀ x ∈ s.sv, I64 x
  keysL : s.keys.length ≤ 12
  valsL : s.vals.length ≤ 12
  belL : s.bel.length ≤ 64
  ptsL : s.pts.length ≤ 64
  spL : s.sp.length ≤ 2
  svL : s.sv.length ≤ 2
  swL : s.sw.size ≤ 47
theorem app_le {a b : List UInt8} {x y : Nat} (h : a.length ≤ x) (k : b.length ≤ y) : (a ++ b).length ≤ x + y := by rw [List.length_append]; omega
theorem lst_le (xs : List Int) {m : Nat} (h : ∀ x ∈ xs, I64 x) (hl : xs.length ≤ m) (hm : m ≤ 1000) : (lst xs).length ≤ 22 * m + 22 := by
  have := lst_len xs h (by omega)
  omega
theorem sz_I {n : Nat} (h : n ≤ 47) : I64 (n : Int) := by unfold I64; omega
theorem sz_step {c c' : ByteArray} {p : List UInt8} {a b : Nat} (h : c'.data.toList = c.data.toList ++ p) (hz : c.size ≤ a) (hp : p.length ≤ b) : c'.size ≤ a + b := by
  rw [txt_size h, List.length_append, ba_size]; omega
theorem frT_len (s : St) (hi : StI s) : (frT s).length ≤ 10000 :=
  Nat.le_trans (app_le (nb_len _ hi.kd) (app_le (nb_len _ hi.key) (app_le (nb_len _ hi.val) (app_le (nb_len _ hi.step) (app_le (nb_len _ hi.pg) (app_le (lst_le _ hi.keys hi.keysL (by decide)) (app_le (lst_le _ hi.vals hi.valsL (by decide)) (app_le (lst_le _ hi.bel hi.belL (by decide)) (app_le (lst_le _ hi.pts hi.ptsL (by decide)) (app_le (nb_len _ hi.ver) (app_le (lst_le _ hi.sp hi.spL (by decide)) (app_le (lst_le _ hi.sv hi.svL (by decide)) (app_le (nb_len _ hi.laid) (app_le (nb_len _ hi.lv) (app_le (nb_len _ hi.low) (app_le (nb_len _ hi.ch) (app_le (nb_len _ hi.pt) (app_le (nb_len _ (sz_I hi.swL)) (show (s.sw.data.toList).length ≤ 47 by rw [ba_size]; exact hi.swL))))))))))))))))))) (by decide)
set_option maxRecDepth 100000 in
set_option maxHeartbeats 3200000 in
theorem frameText_any (s : St) (kv vv bv pv xv yv : Value) (w : World) (htab : Tab w) (hv : StV w s kv vv bv pv xv yv) (hi : StI s) :
    Calls Tryz.prog 41 #[.agg #[.int .i64 s.kd, .int .i64 s.key, .int .i64 s.val, .int .i64 s.step, .int .i64 s.pg, kv, vv, bv, pv, .string s.sw, .int .i64 s.ver, xv, yv, .int .i64 s.laid, .int .i64 s.lv, .int .i64 s.low, .int .i64 s.ch, .int .i64 s.pt]] w fun e w' => Txt e (frT s) ∧ Below w.heap.size w w' := by
  have HV := hideIt hv
  have HI := hideIt hi
  clear hv hi
  obtain ⟨ak, ck, rfl⟩ := HV.out.keys.len
  obtain ⟨av, cv, rfl⟩ := HV.out.vals.len
  obtain ⟨ab, cb, rfl⟩ := HV.out.bel.len
  obtain ⟨ap, cp, rfl⟩ := HV.out.pts.len
  obtain ⟨ax, cx, rfl⟩ := HV.out.sp.len
  obtain ⟨ay, cy, rfl⟩ := HV.out.sv.len
  have N0 := hideIt (heap_alloc_new w (.cells #[.int .i64 s.kd, .int .i64 s.key, .int .i64 s.val, .int .i64 s.step, .int .i64 s.pg, .slice ak s.keys.length ck, .slice av s.vals.length cv, .slice ab s.bel.length cb, .slice ap s.pts.length cp, .string s.sw, .int .i64 s.ver, .slice ax s.sp.length cx, .slice ay s.sv.length cy, .int .i64 s.laid, .int .i64 s.lv, .int .i64 s.low, .int .i64 s.ch, .int .i64 s.pt] 92))
  have B0 := hideIt ((Below.refl w.heap.size w).alloc (Nat.le_refl _) (.cells #[.int .i64 s.kd, .int .i64 s.key, .int .i64 s.val, .int .i64 s.step, .int .i64 s.pg, .slice ak s.keys.length ck, .slice av s.vals.length cv, .slice ab s.bel.length cb, .slice ap s.pts.length cp, .string s.sw, .int .i64 s.ver, .slice ax s.sp.length cx, .slice ay s.sv.length cy, .int .i64 s.laid, .int .i64 s.lv, .int .i64 s.low, .int .i64 s.ch, .int .i64 s.pt] 92))
  go_enter Tryz.func41, Tryz.ntmps41
  go_wp2_with fail
  refine (addNumber_any ⟨#[]⟩ _ _ (htab.below B0.out) (by decide) HI.out.kd).mono ?_
  rintro e w1 ⟨⟨c1, rfl, hc⟩, hb⟩
  have C1 := hideIt hc
  have B1 := hideIt (step B0.out hb)
  have N1 := hideIt (block_below N0.out hb)
  have q := cellOf N1.out 1 _ rfl
  have Z1 : c1.size ≤ 22 := sz_step C1.out (show (⟨#[]⟩ : ByteArray).size ≤ 0 by decide) (nb_len _ HI.out.kd)
  clear hc hb N0
  go_wp2_with fail
  refine (addNumber_any _ _ _ (htab.below B1.out) (by omega) HI.out.key).mono ?_
  rintro e w2 ⟨⟨c2, rfl, hc⟩, hb⟩
  have C2 := hideIt hc
  have B2 := hideIt (step B1.out hb)
  have N2 := hideIt (block_below N1.out hb)
  have q := cellOf N2.out 2 _ rfl
  have Z2 : c2.size ≤ 44 := sz_step C2.out Z1 (nb_len _ HI.out.key)
  clear hc hb N1
  go_wp2_with fail
  refine (addNumber_any _ _ _ (htab.below B2.out) (by omega) HI.out.val).mono ?_
  rintro e w3 ⟨⟨c3, rfl, hc⟩, hb⟩
  have C3 := hideIt hc
  have B3 := hideIt (step B2.out hb)
  have N3 := hideIt (block_below N2.out hb)
  have q := cellOf N3.out 3 _ rfl
  have Z3 : c3.size ≤ 66 := sz_step C3.out Z2 (nb_len _ HI.out.val)
  clear hc hb N2
  go_wp2_with fail
  refine (addNumber_any _ _ _ (htab.below B3.out) (by omega) HI.out.step).mono ?_
  rintro e w4 ⟨⟨c4, rfl, hc⟩, hb⟩
  have C4 := hideIt hc
  have B4 := hideIt (step B3.out hb)
  have N4 := hideIt (block_below N3.out hb)
  have q := cellOf N4.out 4 _ rfl
  have Z4 : c4.size ≤ 88 := sz_step C4.out Z3 (nb_len _ HI.out.step)
  clear hc hb N3
  go_wp2_with fail
  refine (addNumber_any _ _ _ (htab.below B4.out) (by omega) HI.out.pg).mono ?_
  rintro e w5 ⟨⟨c5, rfl, hc⟩, hb⟩
  have C5 := hideIt hc
  have B5 := hideIt (step B4.out hb)
  have N5 := hideIt (block_below N4.out hb)
  have q := cellOf N5.out 5 _ rfl
  have Z5 : c5.size ≤ 110 := sz_step C5.out Z4 (nb_len _ HI.out.pg)
  clear hc hb N4
  go_wp2_with fail
  refine (addList_any _ _ _ _ (htab.below B5.out) (by omega) (HV.out.keys.below B5.out) (by have := HI.out.keysL; omega) HI.out.keys).mono ?_
  rintro e w6 ⟨⟨c6, rfl, hc⟩, hb⟩
  have C6 := hideIt hc
  have B6 := hideIt (step B5.out hb)
  have N6 := hideIt (block_below N5.out hb)
  have q := cellOf N6.out 6 _ rfl
  have Z6 : c6.size ≤ 396 := sz_step C6.out Z5 (lst_le _ HI.out.keys HI.out.keysL (by decide))
  clear hc hb N5
  go_wp2_with fail
  refine (addList_any _ _ _ _ (htab.below B6.out) (by omega) (HV.out.vals.below B6.out) (by have := HI.out.valsL; omega) HI.out.vals).mono ?_
  rintro e w7 ⟨⟨c7, rfl, hc⟩, hb⟩
  have C7 := hideIt hc
  have B7 := hideIt (step B6.out hb)
  have N7 := hideIt (block_below N6.out hb)
  have q := cellOf N7.out 7 _ rfl
  have Z7 : c7.size ≤ 682 := sz_step C7.out Z6 (lst_le _ HI.out.vals HI.out.valsL (by decide))
  clear hc hb N6
  go_wp2_with fail
  refine (addList_any _ _ _ _ (htab.below B7.out) (by omega) (HV.out.bel.below B7.out) (by have := HI.out.belL; omega) HI.out.bel).mono ?_
  rintro e w8 ⟨⟨c8, rfl, hc⟩, hb⟩
  have C8 := hideIt hc
  have B8 := hideIt (step B7.out hb)
  have N8 := hideIt (block_below N7.out hb)
  have q := cellOf N8.out 8 _ rfl
  have Z8 : c8.size ≤ 2112 := sz_step C8.out Z7 (lst_le _ HI.out.bel HI.out.belL (by decide))
  clear hc hb N7
  go_wp2_with fail
  refine (addList_any _ _ _ _ (htab.below B8.out) (by omega) (HV.out.pts.below B8.out) (by have := HI.out.ptsL; omega) HI.out.pts).mono ?_
  rintro e w9 ⟨⟨c9, rfl, hc⟩, hb⟩
  have C9 := hideIt hc
  have B9 := hideIt (step B8.out hb)
  have N9 := hideIt (block_below N8.out hb)
  have q := cellOf N9.out 10 _ rfl
  have Z9 : c9.size ≤ 3542 := sz_step C9.out Z8 (lst_le _ HI.out.pts HI.out.ptsL (by decide))
  clear hc hb N8
  go_wp2_with fail
  refine (addNumber_any _ _ _ (htab.below B9.out) (by omega) HI.out.ver).mono ?_
  rintro e w10 ⟨⟨c10, rfl, hc⟩, hb⟩
  have C10 := hideIt hc
  have B10 := hideIt (step B9.out hb)
  have N10 := hideIt (block_below N9.out hb)
  have q := cellOf N10.out 11 _ rfl
  have Z10 : c10.size ≤ 3564 := sz_step C10.out Z9 (nb_len _ HI.out.ver)
  clear hc hb N9
  go_wp2_with fail
  refine (addList_any _ _ _ _ (htab.below B10.out) (by omega) (HV.out.sp.below B10.out) (by have := HI.out.spL; omega) HI.out.sp).mono ?_
  rintro e w11 ⟨⟨c11, rfl, hc⟩, hb⟩
  have C11 := hideIt hc
  have B11 := hideIt (step B10.out hb)
  have N11 := hideIt (block_below N10.out hb)
  have q := cellOf N11.out 12 _ rfl
  have Z11 : c11.size ≤ 3630 := sz_step C11.out Z10 (lst_le _ HI.out.sp HI.out.spL (by decide))
  clear hc hb N10
  go_wp2_with fail
  refine (addList_any _ _ _ _ (htab.below B11.out) (by omega) (HV.out.sv.below B11.out) (by have := HI.out.svL; omega) HI.out.sv).mono ?_
  rintro e w12 ⟨⟨c12, rfl, hc⟩, hb⟩
  have C12 := hideIt hc
  have B12 := hideIt (step B11.out hb)
  have N12 := hideIt (block_below N11.out hb)
  have q := cellOf N12.out 13 _ rfl
  have Z12 : c12.size ≤ 3696 := sz_step C12.out Z11 (lst_le _ HI.out.sv HI.out.svL (by decide))
  clear hc hb N11
  go_wp2_with fail
  refine (addNumber_any _ _ _ (htab.below B12.out) (by omega) HI.out.laid).mono ?_
  rintro e w13 ⟨⟨c13, rfl, hc⟩, hb⟩
  have C13 := hideIt hc
  have B13 := hideIt (step B12.out hb)
  have N13 := hideIt (block_below N12.out hb)
  have q := cellOf N13.out 14 _ rfl
  have Z13 : c13.size ≤ 3718 := sz_step C13.out Z12 (nb_len _ HI.out.laid)
  clear hc hb N12
  go_wp2_with fail
  refine (addNumber_any _ _ _ (htab.below B13.out) (by omega) HI.out.lv).mono ?_
  rintro e w14 ⟨⟨c14, rfl, hc⟩, hb⟩
  have C14 := hideIt hc
  have B14 := hideIt (step B13.out hb)
  have N14 := hideIt (block_below N13.out hb)
  have q := cellOf N14.out 15 _ rfl
  have Z14 : c14.size ≤ 3740 := sz_step C14.out Z13 (nb_len _ HI.out.lv)
  clear hc hb N13
  go_wp2_with fail
  refine (addNumber_any _ _ _ (htab.below B14.out) (by omega) HI.out.low).mono ?_
  rintro e w15 ⟨⟨c15, rfl, hc⟩, hb⟩
  have C15 := hideIt hc
  have B15 := hideIt (step B14.out hb)
  have N15 := hideIt (block_below N14.out hb)
  have q := cellOf N15.out 16 _ rfl
  have Z15 : c15.size ≤ 3762 := sz_step C15.out Z14 (nb_len _ HI.out.low)
  clear hc hb N14
  go_wp2_with fail
  refine (addNumber_any _ _ _ (htab.below B15.out) (by omega) HI.out.ch).mono ?_
  rintro e w16 ⟨⟨c16, rfl, hc⟩, hb⟩
  have C16 := hideIt hc
  have B16 := hideIt (step B15.out hb)
  have N16 := hideIt (block_below N15.out hb)
  have q := cellOf N16.out 17 _ rfl
  have Z16 : c16.size ≤ 3784 := sz_step C16.out Z15 (nb_len _ HI.out.ch)
  clear hc hb N15
  go_wp2_with fail
  refine (addNumber_any _ _ _ (htab.below B16.out) (by omega) HI.out.pt).mono ?_
  rintro e w17 ⟨⟨c17, rfl, hc⟩, hb⟩
  have C17 := hideIt hc
  have B17 := hideIt (step B16.out hb)
  have N17 := hideIt (block_below N16.out hb)
  have q := cellOf N17.out 9 _ rfl
  have Z17 : c17.size ≤ 3806 := sz_step C17.out Z16 (nb_len _ HI.out.pt)
  clear hc hb N16
  go_wp2_with fail
  refine (addNumber_any _ _ _ (htab.below B17.out) (by omega) (by have := HI.out.swL; unfold I64; omega)).mono ?_
  rintro e w18 ⟨⟨c18, rfl, hc⟩, hb⟩
  have C18 := hideIt hc
  have B18 := hideIt (step B17.out hb)
  have N18 := hideIt (block_below N17.out hb)
  have q := cellOf N18.out 9 _ rfl
  have Z18 : c18.size ≤ 3828 := sz_step C18.out Z17 (nb_len _ (sz_I HI.out.swL))
  clear hc hb N17
  have zsw := HI.out.swL
  go_wp2
  go_ret
  refine ⟨⟨c18 ++ s.sw, rfl, ?_⟩, B18.out⟩
  rw [ba_append, C18.out, C17.out, C16.out, C15.out, C14.out, C13.out, C12.out, C11.out, C10.out, C9.out, C8.out, C7.out, C6.out, C5.out, C4.out, C3.out, C2.out, C1.out]
  simp [frT, List.append_assoc]
def st0 (k key v : Int) : St := ⟨k, key, if k = 1 ∨ k = 3 then 0 else v, 0, 0, [], [], [], [], ⟨#[]⟩, 0, [], [], 0, 0, 0, 0, 0⟩
theorem st0_I (k key v : Int) (h : opR k key v = true) : StI (st0 k key v) := by
  simp only [opR, Bool.and_eq_true, Bool.or_eq_true, decide_eq_true_eq] at h
  unfold st0
  refine ⟨?_, ?_, ?_, ?_, ?_, ?_, ?_, ?_, ?_, ?_, ?_, by simp, by simp, by simp, by simp, by simp, by simp, by simp, by simp, by simp, by simp, by simp, by simp, ?_⟩
  all_goals (try (simp only [I64]))
  all_goals (try split)
  all_goals (first | omega | decide)
def BegR (k key v : Int) (e : Ending) : Prop :=
  (opR k key v = false ∧ e = .returned (.tuple #[.string ⟨#[]⟩, .int .i64 3])) ∨ (opR k key v = true ∧ ∃ c : ByteArray, e = .returned (.tuple #[.string c, .int .i64 0]) ∧ c.data.toList = frT (st0 k key v))
set_option maxRecDepth 100000 in
set_option maxHeartbeats 1600000 in
theorem begin_any (k key v : Int) (w : World) (htab : Tab w) :
    Calls Tryz.prog 27 #[.agg #[.int .i64 k, .int .i64 key, .int .i64 v]] w fun e w' => BegR k key v e ∧ Below w.heap.size w w' := by
  have N0 := hideIt (heap_alloc_new w (.cells #[.int .i64 k, .int .i64 key, .int .i64 v] 36))
  have B0 := hideIt ((Below.refl w.heap.size w).alloc (Nat.le_refl _) (.cells #[.int .i64 k, .int .i64 key, .int .i64 v] 36))
  cases ho : opR k key v
  · have HO := hideIt ho
    clear ho
    go_enter Tryz.func27, Tryz.ntmps27
    go_wp2_with fail
    refine (rightOp_any k key v _).mono ?_
    rintro e w1 ⟨rfl, hb⟩
    rw [HO.out]
    have B1 := hideIt (step B0.out hb)
    clear hb
    go_wp2
    exact bodyPost_ret (v := .tuple #[.string ⟨#[]⟩, .int .i64 3]) (by simp [results, Tryz.results27, go_sem]) rfl ⟨Or.inl ⟨HO.out, rfl⟩, B1.out⟩
  · have HO := hideIt ho
    have hk := opR_kind k key v ho
    clear ho
    go_enter Tryz.func27, Tryz.ntmps27
    go_wp2_with fail
    refine (rightOp_any k key v _).mono ?_
    rintro e w1 ⟨rfl, hb⟩
    rw [HO.out]
    have B1 := hideIt (step B0.out hb)
    have N1 := hideIt (block_below N0.out hb)
    have q0 := cellOf N1.out 0 _ rfl
    have q1 := cellOf N1.out 1 _ rfl
    have q2 := cellOf N1.out 2 _ rfl
    have f2 := Go.Joins.unfrozen_of_block N1.out 2
    clear hb N0
    rcases hk with rfl | rfl | rfl | rfl
    · have B2 := hideIt (Below.setCell B1.out (show w.heap.size ≤ (⟨w.heap.size, 2, none⟩ : Addr).block from Nat.le_refl _) (.int .i64 0))
      go_wp2_with fail
      refine (frameText_any (st0 1 key v) (.slice none 0 0) (.slice none 0 0) (.slice none 0 0) (.slice none 0 0) (.slice none 0 0) (.slice none 0 0) _ (htab.below B2.out) ⟨rd_nil _, rd_nil _, rd_nil _, rd_nil _, rd_nil _, rd_nil _⟩ (st0_I _ _ _ HO.out)).mono ?_
      rintro e w2 ⟨⟨c, rfl, hc⟩, hb⟩
      have HC := hideIt hc
      have B3 := hideIt (step B2.out hb)
      clear hc hb
      go_wp2
      exact bodyPost_ret (v := .tuple #[.string c, .int .i64 0]) (by simp [results, Tryz.results27, go_sem]) rfl ⟨Or.inr ⟨HO.out, c, rfl, HC.out⟩, B3.out⟩
    · have B2 := hideIt (Below.setCell B1.out (show w.heap.size ≤ (⟨w.heap.size, 2, none⟩ : Addr).block from Nat.le_refl _) (.int .i64 0))
      go_wp2_with fail
      refine (frameText_any (st0 3 key v) (.slice none 0 0) (.slice none 0 0) (.slice none 0 0) (.slice none 0 0) (.slice none 0 0) (.slice none 0 0) _ (htab.below B2.out) ⟨rd_nil _, rd_nil _, rd_nil _, rd_nil _, rd_nil _, rd_nil _⟩ (st0_I _ _ _ HO.out)).mono ?_
      rintro e w2 ⟨⟨c, rfl, hc⟩, hb⟩
      have HC := hideIt hc
      have B3 := hideIt (step B2.out hb)
      clear hc hb
      go_wp2
      exact bodyPost_ret (v := .tuple #[.string c, .int .i64 0]) (by simp [results, Tryz.results27, go_sem]) rfl ⟨Or.inr ⟨HO.out, c, rfl, HC.out⟩, B3.out⟩
    · have B2 := B1
      go_wp2_with fail
      refine (frameText_any (st0 2 key v) (.slice none 0 0) (.slice none 0 0) (.slice none 0 0) (.slice none 0 0) (.slice none 0 0) (.slice none 0 0) _ (htab.below B2.out) ⟨rd_nil _, rd_nil _, rd_nil _, rd_nil _, rd_nil _, rd_nil _⟩ (st0_I _ _ _ HO.out)).mono ?_
      rintro e w2 ⟨⟨c, rfl, hc⟩, hb⟩
      have HC := hideIt hc
      have B3 := hideIt (step B2.out hb)
      clear hc hb
      go_wp2
      exact bodyPost_ret (v := .tuple #[.string c, .int .i64 0]) (by simp [results, Tryz.results27, go_sem]) rfl ⟨Or.inr ⟨HO.out, c, rfl, HC.out⟩, B3.out⟩
    · have B2 := B1
      go_wp2_with fail
      refine (frameText_any (st0 4 key v) (.slice none 0 0) (.slice none 0 0) (.slice none 0 0) (.slice none 0 0) (.slice none 0 0) (.slice none 0 0) _ (htab.below B2.out) ⟨rd_nil _, rd_nil _, rd_nil _, rd_nil _, rd_nil _, rd_nil _⟩ (st0_I _ _ _ HO.out)).mono ?_
      rintro e w2 ⟨⟨c, rfl, hc⟩, hb⟩
      have HC := hideIt hc
      have B3 := hideIt (step B2.out hb)
      clear hc hb
      go_wp2
      exact bodyPost_ret (v := .tuple #[.string c, .int .i64 0]) (by simp [results, Tryz.results27, go_sem]) rfl ⟨Or.inr ⟨HO.out, c, rfl, HC.out⟩, B3.out⟩
end Go.Proofs.YtajobgmnmbnhiaaGreatDoor.Sap
