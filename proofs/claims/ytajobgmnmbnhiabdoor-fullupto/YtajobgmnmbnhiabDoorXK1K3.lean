/- WHAT IS PROVED HERE: what saplingkeep's table does where an operation takes effect (do): a Put sets or adds, a Drop takes away. Conditions: the lists are as long as one another and short. -/
import Derived.Test.YtajobgmnmbnhiabDoorXS2S4
import Derived.Test.YtajobgmnmbnhiabDoorXS5B3
import Derived.Test.YtajobgmnmbnhiabDoorXN2N4
import Derived.Test.YtajobgmnmbnhiabDoorXT2C1
namespace Go.Proofs.YtajobgmnmbnhiabDoor.Sap
open Go.RowKit

/-- What an operation does to a map that is kept as two lists. -/
def tdo (kd key v : Int) (K V : List Int) : List Int × List Int :=
  if key ∈ K then
    if kd = 2 then (K, V.set (K.idxOf key) v)
    else if kd = 3 then ((K.set (K.idxOf key) (K[K.length - 1]?.getD 0)).take (K.length - 1), (V.set (K.idxOf key) (V[K.length - 1]?.getD 0)).take (K.length - 1))
    else (K, V)
  else if kd = 2 then (K ++ [key], V ++ [v]) else (K, V)

theorem idx_of_first {K : List Int} {key : Int} : ∀ {i : Nat}, K[i]? = some key → (∀ j, j < i → K[j]?.getD 0 ≠ key) → K.idxOf key = i := by
  induction K with
  | nil => intro i h1 _; simp at h1
  | cons a K ih =>
    intro i h1 h2
    by_cases ha : a = key
    · subst ha
      cases i with
      | zero => simp
      | succ i => exact absurd rfl (h2 0 (by omega))
    · cases i with
      | zero => simp at h1; exact absurd h1 ha
      | succ i =>
        rw [List.idxOf_cons, show (a == key) = false by simp [ha]]
        show K.idxOf key + 1 = i + 1
        rw [ih (i := i) (by simpa using h1) (fun j hj => by have := h2 (j + 1) (by omega); simpa using this)]
theorem ints_set (L : List Int) (i : Nat) (x : Int) : (ints L).set i (.int .i64 x) = ints (L.set i x) := by simp [ints, List.map_set]

theorem M.pop {w0 w : World} {B i g m cap : Nat} {l : List As} {L : List Int} (h : M w0 B w l) (hi : l[i]? = some (.row 3 1 (.slice (some ⟨g, 0, none⟩) (m + 1) cap) (m + 1) (ints L))) (hL : L.length = m + 1) : M w0 B w (l.set i (.row 3 1 (.slice (some ⟨g, 0, none⟩) m cap) m (ints (L.take m)))) := by
  refine h.upd hi ⟨rfl, rfl, rfl, Nat.le_refl _, fun _ _ _ => rfl⟩ ?_ (Or.inl rfl)
  have hr := (h.get hi).own
  have e : ints L = ints (L.take m) ++ ints (L.drop m) := by unfold ints; rw [← List.map_append, List.take_append_drop]
  rw [e] at hr
  exact ownsRow_pop (by rw [len_ints, List.length_take]; omega) hr

end Go.Proofs.YtajobgmnmbnhiabDoor.Sap

/- WHAT IS PROVED HERE: plain facts of sorting by merging: rows of so many, each in the order of times, two by two made one. No program's function is walked. Conditions: none. -/
namespace Go.Proofs.YtajobgmnmbnhiabDoor.Sap
open Go.RowKit

/-- A Put or a Drop that took effect, and when. -/
structure Dn where
  t : Int
  k : Int
  key : Int
  v : Int

def tAt (l : List Dn) (i : Nat) : Int := (l[i]?.map Dn.t).getD 0
def seg2 (l : List Dn) (a b : Nat) : List Dn := (l.take b).drop a
def Srt (l : List Dn) : Prop := l.Pairwise fun a b => a.t ≤ b.t
/-- Rows of W, each in the order of times. -/
def Blk (W : Nat) (l : List Dn) : Prop := ∀ q a b, q * W ≤ a → a < b → b < (q + 1) * W → b < l.length → tAt l a ≤ tAt l b

theorem seg2_succ (l : List Dn) (a b : Nat) (d : Dn) (hab : a ≤ b) (h : l[b]? = some d) : seg2 l a (b + 1) = seg2 l a b ++ [d] := by
  obtain ⟨hl, he⟩ := List.getElem?_eq_some_iff.1 h
  unfold seg2
  rw [List.take_add_one, h, Option.toList_some, List.drop_append_of_le_length (by rw [List.length_take]; omega)]
theorem seg2_nil (l : List Dn) (a : Nat) : seg2 l a a = [] := by unfold seg2; simp
theorem seg2_app (l : List Dn) (a b c : Nat) (hab : a ≤ b) (hbc : b ≤ c) : seg2 l a b ++ seg2 l b c = seg2 l a c := by
  unfold seg2
  rw [List.drop_take, List.drop_take, List.drop_take, show c - a = (b - a) + (c - b) by omega, List.take_add, List.drop_drop, show a + (b - a) = b by omega]
theorem tAt_get {l : List Dn} {i : Nat} {d : Dn} (h : l[i]? = some d) : tAt l i = d.t := by unfold tAt; rw [h]; rfl
theorem len_seg2 (l : List Dn) (a b : Nat) : (seg2 l a b).length = min b l.length - a := by unfold seg2; simp

/-- Two rows, made one as far as i and j. -/
structure Mrg (l : List Dn) (W fr i j : Nat) (mm : List Dn) : Prop where
  pm : mm.Perm (seg2 l fr i ++ seg2 l (fr + W) j)
  so : Srt mm
  i0 : fr ≤ i
  i1 : i ≤ fr + W
  j0 : fr + W ≤ j
  j1 : j ≤ fr + 2 * W
  hi : i < fr + W → i < l.length → ∀ x ∈ mm, x.t ≤ tAt l i
  hj : j < fr + 2 * W → j < l.length → ∀ x ∈ mm, x.t ≤ tAt l j

theorem Mrg.start (l : List Dn) (W fr : Nat) : Mrg l W fr fr (fr + W) [] :=
  ⟨by rw [seg2_nil, seg2_nil]; exact .refl _, .nil, Nat.le_refl _, by omega, Nat.le_refl _, by omega, fun _ _ x hx => (List.not_mem_nil hx).elim, fun _ _ x hx => (List.not_mem_nil hx).elim⟩

theorem srt_snoc {mm : List Dn} {d : Dn} (h : Srt mm) (h2 : ∀ x ∈ mm, x.t ≤ d.t) : Srt (mm ++ [d]) :=
  List.pairwise_append.2 ⟨h, List.pairwise_singleton _ _, fun a ha b hb => by rcases List.mem_singleton.1 hb with rfl; exact h2 a ha⟩

theorem Mrg.takeI {l : List Dn} {W q i j : Nat} {mm : List Dn} {d : Dn} (h : Mrg l W (q * (2 * W)) i j mm) (hB : Blk W l) (hi : i < q * (2 * W) + W) (hd : l[i]? = some d) (hle : j < q * (2 * W) + 2 * W → j < l.length → d.t ≤ tAt l j) : Mrg l W (q * (2 * W)) (i + 1) j (mm ++ [d]) := by
  have hl := (List.getElem?_eq_some_iff.1 hd).1
  have ht := tAt_get hd
  have i0 := h.i0
  refine ⟨?_, srt_snoc h.so (by rw [← ht]; exact h.hi hi hl), by omega, by omega, h.j0, h.j1, ?_, ?_⟩
  · rw [seg2_succ _ _ _ d h.i0 hd]
    refine (h.pm.append_right [d]).trans ?_
    rw [List.append_assoc, List.append_assoc]
    exact List.Perm.append_left _ List.perm_append_comm
  · intro h1 h2 x hx
    have hn : tAt l i ≤ tAt l (i + 1) := hB (2 * q) i (i + 1) (by rw [show 2 * q * W = q * (2 * W) by rw [Nat.mul_comm 2 q, Nat.mul_assoc]]; omega) (by omega) (by rw [show (2 * q + 1) * W = q * (2 * W) + W by rw [Nat.add_mul, Nat.mul_comm 2 q, Nat.mul_assoc, Nat.one_mul]]; omega) h2
    rcases List.mem_append.1 hx with hx | hx
    · exact Int.le_trans (h.hi hi hl x hx) hn
    · rcases List.mem_singleton.1 hx with rfl
      rw [← ht]; exact hn
  · intro h1 h2 x hx
    rcases List.mem_append.1 hx with hx | hx
    · exact h.hj h1 h2 x hx
    · rcases List.mem_singleton.1 hx with rfl
      exact hle h1 h2

theorem Mrg.takeJ {l : List Dn} {W q i j : Nat} {mm : List Dn} {d : Dn} (h : Mrg l W (q * (2 * W)) i j mm) (hB : Blk W l) (hj : j < q * (2 * W) + 2 * W) (hd : l[j]? = some d) (hle : i < q * (2 * W) + W → i < l.length → d.t ≤ tAt l i) : Mrg l W (q * (2 * W)) i (j + 1) (mm ++ [d]) := by
  have hl := (List.getElem?_eq_some_iff.1 hd).1
  have ht := tAt_get hd
  have j0 := h.j0
  refine ⟨?_, srt_snoc h.so (by rw [← ht]; exact h.hj hj hl), h.i0, h.i1, by omega, by omega, ?_, ?_⟩
  · rw [seg2_succ _ _ _ d h.j0 hd, ← List.append_assoc]
    exact h.pm.append_right [d]
  · intro h1 h2 x hx
    rcases List.mem_append.1 hx with hx | hx
    · exact h.hi h1 h2 x hx
    · rcases List.mem_singleton.1 hx with rfl
      exact hle h1 h2
  · intro h1 h2 x hx
    have hn : tAt l j ≤ tAt l (j + 1) := hB (2 * q + 1) j (j + 1) (by rw [show (2 * q + 1) * W = q * (2 * W) + W by rw [Nat.add_mul, Nat.mul_comm 2 q, Nat.mul_assoc, Nat.one_mul]]; omega) (by omega) (by rw [show (2 * q + 1 + 1) * W = q * (2 * W) + 2 * W by rw [Nat.add_assoc, Nat.add_mul, Nat.mul_comm 2 q, Nat.mul_assoc]]; omega) h2
    rcases List.mem_append.1 hx with hx | hx
    · exact Int.le_trans (h.hj hj hl x hx) hn
    · rcases List.mem_singleton.1 hx with rfl
      rw [← ht]; exact hn

/-- The rows that were made one so far: as many as there are, each in order. -/
structure Mds (l : List Dn) (W q : Nat) (out : List Dn) : Prop where
  pm : out.Perm (l.take (q * (2 * W)))
  bl : Blk (2 * W) out

theorem Mds.start (l : List Dn) (W : Nat) : Mds l W 0 [] := ⟨by simp, fun _ _ _ _ _ _ h => by simp at h⟩

theorem srt_at {mm : List Dn} (h : Srt mm) (a b : Nat) (hab : a < b) (hb : b < mm.length) : tAt mm a ≤ tAt mm b := by
  rw [tAt_get (List.getElem?_eq_getElem (show a < mm.length by omega)), tAt_get (List.getElem?_eq_getElem hb)]
  exact List.pairwise_iff_getElem.1 h a b (by omega) hb hab

theorem Mds.step {l : List Dn} {W q i j : Nat} {out mm : List Dn} (h : Mds l W q out) (hm : Mrg l W (q * (2 * W)) i j mm) (hlt : q * (2 * W) < l.length) (hi : ¬ (i < q * (2 * W) + W ∧ i < l.length)) (hj : ¬ (j < q * (2 * W) + 2 * W ∧ j < l.length)) : Mds l W (q + 1) (out ++ mm) := by
  have i0 := hm.i0
  have i1 := hm.i1
  have j0 := hm.j0
  have j1 := hm.j1
  have e1 : (q + 1) * (2 * W) = q * (2 * W) + 2 * W := by rw [Nat.add_mul, Nat.one_mul]
  have hlen : out.length = q * (2 * W) := by rw [h.pm.length_eq, List.length_take]; omega
  have hseg : seg2 l (q * (2 * W)) i ++ seg2 l (q * (2 * W) + W) j = seg2 l (q * (2 * W)) (q * (2 * W) + 2 * W) := by
    have a1 : seg2 l (q * (2 * W)) i = seg2 l (q * (2 * W)) (q * (2 * W) + W) := by
      rcases Nat.lt_or_ge i (q * (2 * W) + W) with h1 | h1
      · have h2 : l.length ≤ i := by
          rcases Nat.lt_or_ge i l.length with h3 | h3
          · exact absurd ⟨h1, h3⟩ hi
          · exact h3
        unfold seg2
        rw [List.take_of_length_le h2, List.take_of_length_le (by omega)]
      · rw [show i = q * (2 * W) + W by omega]
    have a2 : seg2 l (q * (2 * W) + W) j = seg2 l (q * (2 * W) + W) (q * (2 * W) + 2 * W) := by
      rcases Nat.lt_or_ge j (q * (2 * W) + 2 * W) with h1 | h1
      · have h2 : l.length ≤ j := by
          rcases Nat.lt_or_ge j l.length with h3 | h3
          · exact absurd ⟨h1, h3⟩ hj
          · exact h3
        unfold seg2
        rw [List.take_of_length_le h2, List.take_of_length_le (by omega)]
      · rw [show j = q * (2 * W) + 2 * W by omega]
    rw [a1, a2]
    exact seg2_app l _ _ _ (by omega) (by omega)
  have hml : mm.length ≤ 2 * W := by
    rw [hm.pm.length_eq, hseg, len_seg2]; omega
  refine ⟨?_, ?_⟩
  · rw [e1]
    have hp := hm.pm
    rw [hseg] at hp
    refine (h.pm.append hp).trans ?_
    have : l.take (q * (2 * W)) = seg2 l 0 (q * (2 * W)) := by unfold seg2; simp
    rw [this, seg2_app l 0 _ _ (by omega) (by omega)]
    unfold seg2
    simp
  · intro r a b h1 h2 h3 h4
    rw [List.length_append, hlen] at h4
    have hrr : (r + 1) * (2 * W) = r * (2 * W) + 2 * W := by rw [Nat.add_mul, Nat.one_mul]
    rcases Nat.lt_or_ge b (q * (2 * W)) with hb | hb
    · have ea : tAt (out ++ mm) a = tAt out a := by unfold tAt; rw [List.getElem?_append_left (by omega)]
      have eb : tAt (out ++ mm) b = tAt out b := by unfold tAt; rw [List.getElem?_append_left (by omega)]
      rw [ea, eb]
      exact h.bl r a b h1 h2 h3 (by omega)
    · have hqr : q * (2 * W) ≤ a := by
        have : q ≤ r := by
          rcases Nat.lt_or_ge r q with h5 | h5
          · have := Nat.mul_le_mul_right (2 * W) (show r + 1 ≤ q by omega)
            omega
          · exact h5
        have := Nat.mul_le_mul_right (2 * W) this
        omega
      have ea : tAt (out ++ mm) a = tAt mm (a - q * (2 * W)) := by unfold tAt; rw [List.getElem?_append_right (by omega), hlen]
      have eb : tAt (out ++ mm) b = tAt mm (b - q * (2 * W)) := by unfold tAt; rw [List.getElem?_append_right (by omega), hlen]
      rw [ea, eb]
      exact srt_at hm.so _ _ (by omega) (by omega)

theorem Mds.done {l : List Dn} {W q : Nat} {out : List Dn} (h : Mds l W q out) (hq : l.length ≤ q * (2 * W)) : out.Perm l ∧ Blk (2 * W) out := by
  refine ⟨?_, h.bl⟩
  have := h.pm
  rw [List.take_of_length_le hq] at this
  exact this

theorem blk_one (l : List Dn) : Blk 1 l := fun q a b h1 h2 h3 _ => by omega
theorem blk_all {W : Nat} {l : List Dn} (h : Blk W l) (hW : l.length ≤ W) : Srt l := by
  refine List.pairwise_iff_getElem.2 fun a b ha hb hab => ?_
  have := h 0 a b (by omega) hab (by omega) hb
  rw [tAt_get (List.getElem?_eq_getElem ha), tAt_get (List.getElem?_eq_getElem hb)] at this
  exact this
end Go.Proofs.YtajobgmnmbnhiabDoor.Sap

/- WHAT IS PROVED HERE: saplingkeep's merged: rows of so many, each in the order of times, two by two made one. Conditions: the list is short. -/
namespace Go.Proofs.YtajobgmnmbnhiabDoor.Sap
open Go.RowKit

theorem infoDone : (Tryd.prog.info? 167).map (fun i => (i.zero, i.size, i.bytes)) = some (some (.agg #[.int .i64 0, .int .i64 0, .int .i64 0, .int .i64 0]), 4, 32) := by kernel_rfl
/-- What took effect, in memory. -/
def dnc (l : List Dn) : List Value := l.flatMap fun d => [.int .i64 d.t, .int .i64 d.k, .int .i64 d.key, .int .i64 d.v]
theorem dnc_snoc (l : List Dn) (d : Dn) : dnc (l ++ [d]) = dnc l ++ [.int .i64 d.t, .int .i64 d.k, .int .i64 d.key, .int .i64 d.v] := by simp [dnc]
theorem dnc_at {l : List Dn} : ∀ {i : Nat} {d : Dn}, l[i]? = some d → (dnc l)[i * 4]? = some (.int .i64 d.t) ∧ (dnc l)[i * 4 + 1]? = some (.int .i64 d.k) ∧ (dnc l)[i * 4 + 2]? = some (.int .i64 d.key) ∧ (dnc l)[i * 4 + 3]? = some (.int .i64 d.v) := by
  induction l with
  | nil => intro i d h; simp at h
  | cons a l ih =>
    intro i d h
    have e : dnc (a :: l) = [.int .i64 a.t, .int .i64 a.k, .int .i64 a.key, .int .i64 a.v] ++ dnc l := rfl
    rw [e]
    cases i with
    | zero => simp at h; subst h; exact ⟨rfl, rfl, rfl, rfl⟩
    | succ i =>
      obtain ⟨h1, h2, h3, h4⟩ := ih (i := i) (d := d) (by simpa using h)
      rw [show (i + 1) * 4 = 4 + i * 4 by omega]
      refine ⟨?_, ?_, ?_, ?_⟩
      · rw [List.getElem?_append_right (by simp)]; simpa using h1
      · rw [List.getElem?_append_right (by simp; omega)]; simpa [Nat.add_assoc] using h2
      · rw [List.getElem?_append_right (by simp; omega)]; simpa [Nat.add_assoc] using h3
      · rw [List.getElem?_append_right (by simp; omega)]; simpa [Nat.add_assoc] using h4

/-- The cells of one of them. -/
theorem M.dnCell {w0 w : World} {B i g n cap : Nat} {l : List As} {L : List Dn} (h : M w0 B w l) (hi : l[i]? = some (.row 167 4 (.slice (some ⟨g, 0, none⟩) n cap) n (dnc L))) {j : Nat} {d : Dn} (hj : L[j]? = some d) (hjn : j < n) :
    w.cell? ⟨g, j * 4, none⟩ = some (.int .i64 d.t) ∧ w.cell? ⟨g, j * 4 + 1, none⟩ = some (.int .i64 d.k) ∧ w.cell? ⟨g, j * 4 + 2, none⟩ = some (.int .i64 d.key) ∧ w.cell? ⟨g, j * 4 + 3, none⟩ = some (.int .i64 d.v) := by
  have hr := (h.get hi).own
  obtain ⟨h1, h2, h3, h4⟩ := dnc_at hj
  refine ⟨?_, ?_, ?_, ?_⟩
  · rw [World.ownsRow.cellAt hr _ (by omega)]; exact h1
  · rw [World.ownsRow.cellAt hr _ (by omega)]; exact h2
  · rw [World.ownsRow.cellAt hr _ (by omega)]; exact h3
  · rw [World.ownsRow.cellAt hr _ (by omega)]; exact h4

end Go.Proofs.YtajobgmnmbnhiabDoor.Sap
