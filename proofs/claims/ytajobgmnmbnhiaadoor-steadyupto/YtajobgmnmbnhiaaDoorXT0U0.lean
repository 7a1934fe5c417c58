/- WHAT IS PROVED HERE: plain facts on the texts of frames: numbers with a comma behind each, lists with their length ahead (no program). Conditions: none but those named at each theorem. -/
import Derived.Test.YtajobgmnmbnhiaaDoorXW3W5
import Derived.Test.YtajobgmnmbnhiaaDoorXMemW10
import Derived.Test.YtajobgmnmbnhiaaDoorXW13R2
import Derived.Lib.ItoaLen
namespace Go.Proofs.YtajobgmnmbnhiaaDoor.Sap
open Go.RowKit

/-- What an operation knows between two accesses. -/
structure St where
  kd : Int
  key : Int
  val : Int
  step : Int
  pg : Int
  keys : List Int
  vals : List Int
  bel : List Int
  pts : List Int
  sw : ByteArray
  ver : Int
  sp : List Int
  sv : List Int
  laid : Int
  lv : Int
  low : Int
  ch : Int
  pt : Int

def nb (n : Int) : List UInt8 := Lib.itoa n ++ [44]
def nbs (xs : List Int) : List UInt8 := (xs.map nb).flatten
def lst (xs : List Int) : List UInt8 := nb xs.length ++ nbs xs
def frT (s : St) : List UInt8 := nb s.kd ++ (nb s.key ++ (nb s.val ++ (nb s.step ++ (nb s.pg ++ (lst s.keys ++ (lst s.vals ++ (lst s.bel ++ (lst s.pts ++ (nb s.ver ++ (lst s.sp ++ (lst s.sv ++ (nb s.laid ++ (nb s.lv ++ (nb s.low ++ (nb s.ch ++ (nb s.pt ++ (nb (s.sw.size : Int) ++ (s.sw.data.toList))))))))))))))))))
def I64 (n : Int) : Prop := -9223372036854775808 ≤ n ∧ n ≤ 9223372036854775807

theorem nb_len (n : Int) (h : I64 n) : (nb n).length ≤ 22 := by
  have := Lib.itoa_length_le n h.1 h.2
  simp [nb]; omega
theorem nbs_snoc (xs : List Int) (k : Nat) (hk : k < xs.length) : nbs (xs.take (k + 1)) = nbs (xs.take k) ++ nb (xs[k]?.getD 0) := by
  unfold nbs
  rw [List.take_add_one, List.getElem?_eq_getElem hk, Option.toList_some, List.map_append, List.flatten_append]
  simp
theorem nbs_len (xs : List Int) (h : ∀ x ∈ xs, I64 x) : (nbs xs).length ≤ 22 * xs.length := by
  induction xs with
  | nil => simp [nbs]
  | cons x r ih =>
    have h1 := nb_len x (h x (by simp))
    have h2 := ih (fun y hy => h y (by simp [hy]))
    unfold nbs at h2 ⊢
    simp only [List.map_cons, List.flatten_cons, List.length_append, List.length_cons]
    omega
theorem lst_len (xs : List Int) (h : ∀ x ∈ xs, I64 x) (hl : xs.length ≤ 1000000) : (lst xs).length ≤ 22 * xs.length + 22 := by
  have h1 := nb_len xs.length (by unfold I64; omega)
  have h2 := nbs_len xs h
  unfold lst
  rw [List.length_append]
  omega

/-- An operation that is right. -/
def opR (k key v : Int) : Bool := decide (1 ≤ key) && decide (key ≤ 9999) && (decide (k = 1) || decide (k = 3) || (decide (k = 2) && decide (0 ≤ v) && decide (v ≤ 9999)) || (decide (k = 4) && decide (key ≤ v) && decide (v ≤ 9999)))
theorem opR_hi (k key v : Int) (h : 9999 < key) : Hid (opR k key v = false) := by
  have : decide (key ≤ 9999) = false := by simp; omega
  unfold Hid opR; rw [this]; simp
theorem opR_lo (k key v : Int) (h : key < 1) : Hid (opR k key v = false) := by
  have : decide (1 ≤ key) = false := by simp; omega
  unfold Hid opR; rw [this]; simp
end Go.Proofs.YtajobgmnmbnhiaaDoor.Sap

/- WHAT IS PROVED HERE: what tree.First, tree.rightOp, saplingref.OpRight, tree.addNumber, tree.addList, tree.frameText and tree.Begin answer. Conditions: named at each theorem. -/
namespace Go.Proofs.YtajobgmnmbnhiaaDoor.Sap
open Go.RowKit

theorem first_any (w : World) : Calls Tryd.prog 20 #[] w fun e w' => e = .returned (.string ⟨#[48, 45, 45, 45, 45, 45, 45]⟩) ∧ w' = w := by
  go_enter Tryd.func20, Tryd.ntmps20
  go_wp2
  go_ret
  exact ⟨rfl, rfl⟩

set_option maxRecDepth 100000 in
set_option maxHeartbeats 800000 in
theorem rightOp_any (k key v : Int) (w : World) :
    Calls Tryd.prog 49 #[.agg #[.int .i64 k, .int .i64 key, .int .i64 v]] w fun e w' => e = .returned (.bool (opR k key v)) ∧ Below w.heap.size w w' := by
  have hb : Below w.heap.size w (w.alloc (.cells #[.int .i64 k, .int .i64 key, .int .i64 v] 37)) := (Below.refl _ _).alloc (Nat.le_refl _) _
  by_cases h1 : 1 ≤ key
  · by_cases h2 : key ≤ 9999
    · by_cases k1 : k = 1
      · subst k1
        go_enter Tryd.func49, Tryd.ntmps49
        go_wp2
        go_ret
        refine ⟨ret_bool ?_, hb⟩
        simp [opR, h1, h2]
      by_cases k3 : k = 3
      · subst k3
        go_enter Tryd.func49, Tryd.ntmps49
        go_wp2
        go_ret
        refine ⟨ret_bool ?_, hb⟩
        simp [opR, h1, h2]
      by_cases k2 : k = 2
      · subst k2
        go_enter Tryd.func49, Tryd.ntmps49
        go_wp2
        all_goals go_ret
        all_goals refine ⟨ret_bool ?_, hb⟩
        all_goals (rw [Bool.eq_iff_iff]; simp [opR, h1, h2]; try omega)
      by_cases k4 : k = 4
      · subst k4
        go_enter Tryd.func49, Tryd.ntmps49
        go_wp2
        all_goals go_ret
        all_goals refine ⟨ret_bool ?_, hb⟩
        all_goals (rw [Bool.eq_iff_iff]; simp [opR, h1, h2]; try omega)
      have b1 : (k == 1) = false := by simp [k1]
      have b2 : (k == 2) = false := by simp [k2]
      have b3 : (k == 3) = false := by simp [k3]
      have b4 : (k == 4) = false := by simp [k4]
      go_enter Tryd.func49, Tryd.ntmps49
      go_wp2
      go_ret
      refine ⟨ret_bool ?_, hb⟩
      simp [opR, k1, k2, k3, k4]
    · have HN := opR_hi k key v (by omega)
      go_enter Tryd.func49, Tryd.ntmps49
      go_wp2
      go_ret
      exact ⟨ret_bool HN.out.symm, hb⟩
  · have HN := opR_lo k key v (by omega)
    go_enter Tryd.func49, Tryd.ntmps49
    go_wp2
    go_ret
    exact ⟨ret_bool HN.out.symm, hb⟩

set_option maxRecDepth 100000 in
set_option maxHeartbeats 800000 in
theorem refOpRight_any (k key v : Int) (w : World) :
    Calls Tryd.prog 22 #[.agg #[.int .i64 k, .int .i64 key, .int .i64 v]] w fun e w' => e = .returned (.bool (opR k key v)) ∧ Below w.heap.size w w' := by
  have hb : Below w.heap.size w (w.alloc (.cells #[.int .i64 k, .int .i64 key, .int .i64 v] 37)) := (Below.refl _ _).alloc (Nat.le_refl _) _
  by_cases h1 : 1 ≤ key
  · by_cases h2 : key ≤ 9999
    · by_cases k1 : k = 1
      · subst k1
        go_enter Tryd.func22, Tryd.ntmps22
        go_wp2
        go_ret
        refine ⟨ret_bool ?_, hb⟩
        simp [opR, h1, h2]
      by_cases k3 : k = 3
      · subst k3
        go_enter Tryd.func22, Tryd.ntmps22
        go_wp2
        go_ret
        refine ⟨ret_bool ?_, hb⟩
        simp [opR, h1, h2]
      by_cases k2 : k = 2
      · subst k2
        go_enter Tryd.func22, Tryd.ntmps22
        go_wp2
        all_goals go_ret
        all_goals refine ⟨ret_bool ?_, hb⟩
        all_goals (rw [Bool.eq_iff_iff]; simp [opR, h1, h2]; try omega)
      by_cases k4 : k = 4
      · subst k4
        go_enter Tryd.func22, Tryd.ntmps22
        go_wp2
        all_goals go_ret
        all_goals refine ⟨ret_bool ?_, hb⟩
        all_goals (rw [Bool.eq_iff_iff]; simp [opR, h1, h2]; try omega)
      have b1 : (k == 1) = false := by simp [k1]
      have b2 : (k == 2) = false := by simp [k2]
      have b3 : (k == 3) = false := by simp [k3]
      have b4 : (k == 4) = false := by simp [k4]
      go_enter Tryd.func22, Tryd.ntmps22
      go_wp2
      go_ret
      refine ⟨ret_bool ?_, hb⟩
      simp [opR, k1, k2, k3, k4]
    · have HN := opR_hi k key v (by omega)
      go_enter Tryd.func22, Tryd.ntmps22
      go_wp2
      go_ret
      exact ⟨ret_bool HN.out.symm, hb⟩
  · have HN := opR_lo k key v (by omega)
    go_enter Tryd.func22, Tryd.ntmps22
    go_wp2
    go_ret
    exact ⟨ret_bool HN.out.symm, hb⟩

/-- A text that was made: what it reads, and how long it may be. -/
def Txt (e : Ending) (t : List UInt8) : Prop := ∃ c : ByteArray, e = .returned (.string c) ∧ c.data.toList = t

set_option maxRecDepth 100000 in
set_option maxHeartbeats 800000 in
theorem addNumber_any (b : ByteArray) (n : Int) (w : World) (htab : Tab w) (hb : b.size ≤ 100000) (hn : I64 n) :
    Calls Tryd.prog 70 #[.string b, .int .i64 n] w fun e w' => Txt e (b.data.toList ++ nb n) ∧ Below w.heap.size w w' := by
  have hl := Lib.itoa_length_le n hn.1 hn.2
  go_enter Tryd.func70, Tryd.ntmps70
  go_wp2_with (go_at_call 67; refine (Tryd.strconv_Itoa n hn.1 hn.2 _ htab).mono ?_; rintro e w1 ⟨rfl, kk, os, hw⟩; have hbel := hw ▸ Lib.below_grow w.heap.size w (Nat.le_refl _) kk os; clear hw; obtain ⟨b0, hb0⟩ : ∃ b0, b0 = (ByteArray.mk (Lib.itoa n).toArray) := ⟨_, rfl⟩; rw [← hb0]; have HB0 : Hid (b0.data.toList = Lib.itoa n) := (by unfold Hid; rw [hb0]); have hs0 : b0.size ≤ 21 := (by rw [← ba_size, HB0.out]; exact hl); clear hb0)
  all_goals go_ret
  all_goals refine ⟨⟨_, rfl, ?_⟩, hbel⟩
  all_goals (rw [ba_append, ba_append, HB0.out]; unfold nb; simp)
end Go.Proofs.YtajobgmnmbnhiaaDoor.Sap

/- WHAT IS PROVED HERE: plain facts that many texts use: on memory, on rising lists, on texts (no program's function is walked). Conditions: none but those named at each theorem. -/
namespace Go.Proofs.YtajobgmnmbnhiaaDoor.Sap
open Go.RowKit

theorem cellOf {w : World} {b : Nat} {arr : Array Value} {t : TypeId} {f : Nat × Nat} (h : w.heap[b]? = some (.cells arr t f)) (i : Nat) (v : Value) (hv : arr[i]? = some v) : w.cell? ⟨b, i, none⟩ = some v := by
  simp [World.cell?, h, hv]
theorem txt_size {c : ByteArray} {t : List UInt8} (h : c.data.toList = t) : c.size = t.length := by rw [← h, ba_size]
theorem rd_nil (w : World) : Rd w (.slice none 0 0) [] := ⟨none, 0, rfl, fun h => by simp at h⟩
theorem opR_kind (k key v : Int) (h : opR k key v = true) : k = 1 ∨ k = 3 ∨ k = 2 ∨ k = 4 := by
  simp only [opR, Bool.and_eq_true, Bool.or_eq_true, decide_eq_true_eq] at h
  omega
theorem gr_app {w w1 w2 : World} {g : Nat} {o : Obj} {row : Option Nat} (h : w.grownBy w1 (some g)) (k : (w1.alloc o).grownBy w2 row) (hr : ∀ j, row = some j → w.heap.size ≤ j) : w.grownBy w2 (some g) := by
  have hs := k.size
  have h1 := h.size
  simp at hs
  refine ⟨k.os.trans h.os, k.tape.trans h.tape, k.output.trans h.output, by omega, fun j hj hne => ?_⟩
  rw [k.block j (by simp; omega) (fun e => by have := hr j e.symm; omega), Below.heap_alloc _ _ _ (by omega)]
  exact h.block j hj hne
theorem owns_gr {w w' : World} {B g : Nat} {e : TypeId} {v : Value} {n : Nat} {xs : List Value} (h : w.ownsRow B e 1 v n xs) (hg : w.grownBy w' (some g)) (hlt : g < B) : w'.ownsRow B e 1 v n xs := by
  refine h.kept hg ?_
  cases hv : v.ownBlock with
  | none => exact Or.inl rfl
  | some k => exact Or.inr fun e => by have := (h.lt k hv).1; cases e; omega
/-- Numbers that a frame may bear. -/
def Fr (x : Int) : Prop := 0 ≤ x ∧ x ≤ 100000000000000000
theorem Fr.i {x : Int} (h : Fr x) : I64 x := by unfold Fr at h; unfold I64; omega
theorem keysOk_all (hi l : Int) (ks : List Int) (h : keysOk hi l ks = true) : ∀ k ∈ ks, l ≤ k ∧ k < hi := by
  induction ks generalizing l with
  | nil => intro k hk; cases hk
  | cons x r ih =>
    simp only [keysOk, Bool.and_eq_true, decide_eq_true_eq] at h
    intro k hk
    rcases List.mem_cons.1 hk with rfl | hk
    · omega
    · have := ih (x + 1) h.2.2 k hk; omega
/-- The least that the k-th of a rising list may be. -/
def lo (l : Int) (ks : List Int) (k : Nat) : Int := match k with | 0 => l | j + 1 => ks[j]?.getD 0 + 1
theorem keysOk_at (hi l : Int) (ks : List Int) (h : keysOk hi l ks = true) (k : Nat) (hk : k < ks.length) : lo l ks k ≤ ks[k]?.getD 0 ∧ ks[k]?.getD 0 < hi := by
  induction ks generalizing l k with
  | nil => simp at hk
  | cons x r ih =>
    simp only [keysOk, Bool.and_eq_true, decide_eq_true_eq] at h
    cases k with
    | zero => simp [lo]; omega
    | succ j =>
      have := ih (x + 1) h.2.2 j (by simpa using hk)
      cases j with
      | zero => simpa [lo] using this
      | succ i => simpa [lo] using this
/-- Nothing below block B has turned between two worlds but block g. -/
theorem block_gr {w w' : World} {g b : Nat} {x : Obj} (h : w.heap[b]? = some x) (hg : w.grownBy w' (some g)) (hne : b ≠ g) : w'.heap[b]? = some x := by
  rw [hg.block b (lt_of_block h) (fun e => hne (Option.some.inj e))]; exact h
theorem own_sep {w : World} {B C : Nat} {e f : TypeId} {u v : Value} {n m : Nat} {xs ys : List Value} {w' : World} (h : w.ownsRow B e 1 u n xs) (k : w'.ownsRow C f 1 v m ys) (hC : w.heap.size ≤ C) : ∀ g, u.ownBlock = some g → v.ownBlock = some g → False := by
  intro g h1 h2
  have a := (h.lt g h1).2
  have b := (k.lt g h2).1
  omega
theorem drop_next {s : ByteArray} {a : Nat} {x y : List UInt8} (h : s.data.toList.drop a = x ++ y) : s.data.toList.drop (a + x.length) = y := by
  rw [← List.drop_drop, h, List.drop_left]
theorem int_nat {x : Int} (h : 0 ≤ x) : ((x.toNat : Nat) : Int) = x := by omega
theorem alloc_size (w : World) (o : Obj) : (w.alloc o).heap.size = w.heap.size + 1 := by simp
/-- A row that came in lies below the heap's end. -/
theorem Rd.blk_lt {w : World} {b off m cap : Nat} {xs : List Int} (h : Rd w (.slice (some ⟨b, off, none⟩) m cap) xs) (k : Nat) (hk : k < m) : b < w.heap.size := by
  obtain ⟨b1, o1, e, -, x1⟩ := h.elem k hk
  cases e
  have h1 := x1 w (Below.refl _ _)
  rcases Nat.lt_or_ge b w.heap.size with h2 | h2
  · exact h2
  · simp [World.cell?, Array.getElem?_eq_none h2] at h1
/-- The empty answer. -/
def ans0 : Array Value := #[.int .i64 0, .bool false, .int .i64 0, .int .i64 0, .slice none 0 0, .slice none 0 0, .slice none 0 0]
/-- Where a Scan's piece i begins; how many keys lie ahead of it; when the piece ahead of it was read. -/
def fromV (bel : List Int) (key : Int) : Nat → Int
  | 0 => key
  | i + 1 => bel[i]?.getD 0
theorem cell_set_off (w : World) (b i j : Nat) (u : Value) (h : i ≠ j) : (w.setCell ⟨b, i, none⟩ u).drew.cell? ⟨b, j, none⟩ = w.cell? ⟨b, j, none⟩ := by
  show (w.setCell ⟨b, i, none⟩ u).cell? ⟨b, j, none⟩ = _
  simp only [World.cell?, World.setCell, Array.getElem?_modify, if_true]
  cases hw : w.heap[b]? with
  | none => rfl
  | some o => cases o <;> simp [h]
theorem cell_set_blk (w : World) (b c i j : Nat) (u : Value) (h : c ≠ b) : (w.setCell ⟨b, i, none⟩ u).drew.cell? ⟨c, j, none⟩ = w.cell? ⟨c, j, none⟩ := by
  show (w.setCell ⟨b, i, none⟩ u).cell? ⟨c, j, none⟩ = _
  exact World.cell?_of_block (Below.heap_setCell _ _ _ _ h)
end Go.Proofs.YtajobgmnmbnhiaaDoor.Sap
