/- WHAT IS PROVED HERE: page.Pack answers a right node's text, and ErrNode for every other. Conditions: the table of powers of ten is laid; the slices are no longer than memory bears. -/
import Derived.Test.YtajobgmnmbnhiaaGreatDoorXW3W4
import Derived.Maps.AppendAt
namespace Go.Proofs.YtajobgmnmbnhiaaGreatDoor.Sap
open Go.RowKit

theorem hideIt {p : Prop} (h : p) : Hid p := h

/-- What Pack answers: the text and 0 for a right node, nothing and 1 for every other. -/
def Pk (n : Nd) (b : ByteArray) (er : Int) : Prop := if rightB n then b.data.toList = packT n ∧ er = 0 else b.data.toList = [] ∧ er = 1

theorem ents_snoc (lv : Int) (ks vs : List Int) (k : Nat) (hk : k < ks.length) (hv : k < vs.length) :
    ents lv (ks.take (k + 1)) (vs.take (k + 1)) = ents lv (ks.take k) (vs.take k) ++ (dg 4 (ks[k]?.getD 0).toNat ++ dg (vw lv) (vs[k]?.getD 0).toNat) := by
  induction k generalizing ks vs with
  | zero =>
    cases ks with
    | nil => simp at hk
    | cons x ks =>
      cases vs with
      | nil => simp at hv
      | cons y vs => simp [ents]
  | succ k ih =>
    cases ks with
    | nil => simp at hk
    | cons x ks =>
      cases vs with
      | nil => simp at hv
      | cons y vs =>
        have := ih ks vs (by simpa using hk) (by simpa using hv)
        simp only [List.take_succ_cons, ents, this, List.append_assoc]
        simp

theorem vw_bd (lv : Int) : 1 ≤ (vw lv : Int) ∧ (vw lv : Int) ≤ 4 := by unfold vw; split <;> decide
theorem mem_at {xs : List Int} {k : Nat} (h : k < xs.length) : xs[k]?.getD 0 ∈ xs := by simp [h]

/-- A slice's element, in a world that has grown. -/
theorem Rd.elem {w : World} {ao : Option Addr} {m cap : Nat} {xs : List Int} (h : Rd w (.slice ao m cap) xs) (k : Nat) (hk : k < m) :
    ∃ b off, ao = some ⟨b, off, none⟩ ∧ k < xs.length ∧ ∀ w', Below w.heap.size w w' → w'.cell? ⟨b, off + k, none⟩ = some (.int .i64 (xs[k]?.getD 0)) := by
  obtain ⟨ao', cap', hv, hr⟩ := h
  simp only [Value.slice.injEq] at hv
  obtain ⟨rfl, rfl, rfl⟩ := hv
  obtain ⟨b, off, rfl, hc⟩ := hr (by omega)
  exact ⟨b, off, rfl, hk, fun w' hb => cell_below hb _ _ (hc k hk)⟩

set_option maxRecDepth 100000 in
set_option maxHeartbeats 800000 in
theorem pack_any (n : Nd) (kv vv : Value) (w : World) (htab : Tab w) (hk : Rd w kv n.ks) (hv : Rd w vv n.vs) (hkl : n.ks.length ≤ 17592186044416) (hvl : n.vs.length ≤ 17592186044416) :
    Calls Tryz.prog 24 #[.agg #[.int .i64 n.lv, .int .i64 n.lk, .int .i64 n.hi, kv, vv]] w fun e w' => ∃ b er, e = .returned (.tuple #[.string b, .int .i64 er]) ∧ Pk n b er ∧ b.size ≤ 55 ∧ Below w.heap.size w w' := by
  have HK : Hid (Rd w kv n.ks) := hk
  have HV : Hid (Rd w vv n.vs) := hv
  obtain ⟨ak, ck, rfl⟩ := hk.len
  obtain ⟨av, cv, rfl⟩ := hv.len
  have HT : Hid (Tab w) := htab
  clear hk hv htab
  by_cases hr : rightB n = true
  rotate_left
  · have HR : Hid (rightB n = false) := by unfold Hid; simpa using hr
    clear hr
    go_enter Tryz.func24, Tryz.ntmps24
    go_wp2_with fail
    refine (right_any n _ _ _ (by exact HK.out.alloc _) (by exact HV.out.alloc _) hkl hvl).mono ?_
    rintro e w1 ⟨rfl, hb⟩
    rw [HR.out]
    have hb1 := step ((Below.refl _ _).alloc (Nat.le_refl _) _) hb
    clear hb
    go_wp2
    go_ret2
    exact ⟨_, _, rfl, by unfold Pk; rw [HR.out]; exact ⟨rfl, rfl⟩, by decide, hb1⟩
  · have HR : Hid (rightB n = true) := hr
    obtain ⟨c1, c2, c3, c4, c5, c6, c7, c8⟩ := right_bd n hr
    clear hr
    obtain ⟨m, hm1, hm2⟩ : ∃ m, n.ks.length = m ∧ n.vs.length = m := ⟨_, rfl, c4.symm⟩
    have Hm1 : Hid (n.ks.length = m) := hm1
    have Hm2 : Hid (n.vs.length = m) := hm2
    have C3 := Hid.out (p := (n.hi = 10000 ∧ n.lk = -1) ∨ (1 ≤ n.hi ∧ n.hi ≤ 9999 ∧ 1 ≤ n.lk ∧ n.lk ≤ 63)) c3
    have C7 : Hid (∀ k ∈ n.ks, 0 ≤ k ∧ k ≤ 9999) := c7
    have C8 : Hid (∀ v ∈ n.vs, 0 ≤ v ∧ v.toNat < 10 ^ vw n.lv) := c8
    have hm6 : m ≤ 6 := by omega
    rw [hm1] at HK
    rw [hm2] at HV
    rw [hm1, hm2]
    have hvw := vw_bd n.lv
    have hvw1 := hvw.1
    have hvw4 := hvw.2
    clear hm1 hm2 c3 c4 c5 c6 c7 c8 C3 hkl hvl hvw
    go_enter Tryz.func24, Tryz.ntmps24
    go_wp2_with fail
    refine (right_any n _ _ _ (by exact HK.out.alloc _) (by exact HV.out.alloc _) (by rw [Hm1.out]; omega) (by rw [Hm2.out]; omega)).mono ?_
    rintro e w1 ⟨rfl, hb⟩
    rw [HR.out]
    have B1 := (Box.new w (.int .i64 n.lv) (.int .i64 n.lk) (.int .i64 n.hi) (.slice ak m ck) (.slice av m cv) 67).below hb
    obtain ⟨q0, q1, q2, q3, q4⟩ := B1
    have hb1 := step ((Below.refl _ _).alloc (Nat.le_refl _) _) hb
    have hz1 := hb.size
    clear hb
    go_wp2_with fail
    refine (headText_any n _ _ _ (HT.out.below hb1) HR.out).mono ?_
    rintro e w2 ⟨b0, rfl, hd0, hs0, hb⟩
    have B2 := Box.below ⟨q0, q1, q2, q3, q4⟩ hb
    clear q0 q1 q2 q3 q4
    obtain ⟨q0, q1, q2, q3, q4⟩ := B2
    have hb2 := step hb1 hb
    clear hb hb1 hz1
    have HD0 : Hid (b0.data.toList = headT n) := hd0
    have HS0 : Hid (b0.size = 7) := hs0
    clear hd0 hs0
    go_wp2_with fail
    refine (valWidth_any n.lv _).mono ?_
    rintro e w3 ⟨rfl, rfl⟩
    go_wp2_with fail
    go_loopw [4, 6] (fun t i wr => ∃ (k : Nat) (b : ByteArray), k ≤ m ∧ i = .int .i64 k ∧ t = .string b ∧ b.size ≤ 7 + 8 * k ∧ Hid (b.data.toList = headT n ++ ents n.lv (n.ks.take k) (n.vs.take k)) ∧ Below w.heap.size w wr ∧ Box wr w.heap.size (.int .i64 n.lv) (.int .i64 n.lk) (.int .i64 n.hi) (.slice ak m ck) (.slice av m cv)) (fun _ i _ => m - (intOf i).toNat)
    case atStart => exact ⟨0, b0, Nat.zero_le _, rfl, rfl, by rw [HS0.out]; decide, by unfold Hid; rw [HD0.out]; simp [ents], hb2, q0, q1, q2, q3, q4⟩
    case round =>
      clear q0 q1 q2 q3 q4 hb2 HD0 HS0
      obtain ⟨k, b, hk, rfl, rfl, hbs, hbt, hbw, q0, q1, q2, q3, q4⟩ := hrel
      by_cases hlt : k < m
      · obtain ⟨bk, ok, rfl, hk1, hck⟩ := HK.out.elem k hlt
        obtain ⟨bv, ov, rfl, hv1, hcv⟩ := HV.out.elem k hlt
        have HCK := hideIt hck
        have HCV := hideIt hcv
        have xk := C7.out _ (mem_at hk1)
        have xv := C8.out _ (mem_at hv1)
        have hsn : Hid (ents n.lv (n.ks.take (k + 1)) (n.vs.take (k + 1)) = ents n.lv (n.ks.take k) (n.vs.take k) ++ (dg 4 (n.ks[k]?.getD 0).toNat ++ dg (vw n.lv) (n.vs[k]?.getD 0).toNat)) := ents_snoc n.lv n.ks n.vs k hk1 hv1
        have ck1 := hck _ hbw
        have cv1 := hcv _ hbw
        clear hck hcv hk1 hv1
        obtain ⟨x, hx⟩ : ∃ x, n.ks[k]?.getD 0 = x := ⟨_, rfl⟩
        obtain ⟨y, hy⟩ : ∃ y, n.vs[k]?.getD 0 = y := ⟨_, rfl⟩
        rw [hx] at ck1 xk hsn HCK
        rw [hy] at cv1 xv hsn HCV
        clear hx hy
        obtain ⟨x0, x1⟩ := xk
        have y0 := xv.1
        have Y1 : Hid (y.toNat < 10 ^ vw n.lv) := xv.2
        clear xv
        have hkk : (0 : Int) ≤ (k : Int) := by omega
        have hkl : (k : Int) < (m : Int) := by omega
        go_wp2_with fail
        refine (digits_any x 4 _ (HT.out.below hbw) (by omega) (by omega) (by omega) (by rw [pow4]; omega)).mono ?_
        rintro e w4 ⟨b1, rfl, hd1, hs1, hb⟩
        have B2 := Box.below ⟨q0, q1, q2, q3, q4⟩ hb
        clear q0 q1 q2 q3 q4 ck1 cv1
        obtain ⟨q0, q1, q2, q3, q4⟩ := B2
        have hb4 := step hbw hb
        clear hb
        have cv1 := HCV.out _ hb4
        have hz1 : b1.size ≤ 4 := by rw [hs1]; decide
        have HD1 : Hid (b1.data.toList = dg 4 x.toNat) := hd1
        clear hs1 hd1
        go_wp2_with fail
        refine (digits_any y (vw n.lv) _ (HT.out.below hb4) (by omega) (by omega) (by omega) (by simpa using Y1.out)).mono ?_
        rintro e w5 ⟨b2, rfl, hd2, hs2, hb⟩
        have B2 := Box.below ⟨q0, q1, q2, q3, q4⟩ hb
        clear q0 q1 q2 q3 q4 cv1
        have hb5 := step hb4 hb
        clear hb
        have hz2 : b2.size ≤ 4 := by rw [hs2]; omega
        have HD2 : Hid (b2.data.toList = dg (vw n.lv) y.toNat) := by simpa [Hid] using hd2
        clear hs2 hd2
        go_wp2
        go_roundw
        case rel =>
          refine ⟨k + 1, _, by omega, by go_num, rfl, ?_, ?_, hb5, B2⟩
          · rw [ByteArray.size_append, ByteArray.size_append]; omega
          · unfold Hid; rw [ba_append, ba_append, hbt.out, HD1.out, HD2.out, hsn.out]; simp only [List.append_assoc]
        case measure => simp [intOf]; omega
      · have hk0 : k = m := by omega
        have hfin : Hid (b.data.toList = packT n) := by
          unfold Hid packT; rw [hbt.out, List.take_of_length_le (by rw [Hm1.out]; omega), List.take_of_length_le (by rw [Hm2.out]; omega)]
        clear hbt hk0
        go_wp2
        go_ret2
        exact ⟨_, _, rfl, by unfold Pk; rw [HR.out]; exact ⟨hfin.out, rfl⟩, by omega, hbw⟩
end Go.Proofs.YtajobgmnmbnhiaaGreatDoor.Sap

/- WHAT IS PROVED HERE: two rows of numbers of the call's own, and a node in memory that holds them, behind an append and a store. No program's function is walked. Conditions: none. -/
namespace Go.Proofs.YtajobgmnmbnhiaaGreatDoor.Sap
open Go.RowKit

def ints (xs : List Int) : List Value := xs.map (Value.int .i64)
theorem ints_snoc (xs : List Int) (x : Int) : ints (xs ++ [x]) = ints xs ++ [.int .i64 x] := by simp [ints]
theorem len_ints (xs : List Int) : (ints xs).length = xs.length := by simp [ints]

/-- Two slices that own rows of their own (blocks from B on), which are not one. -/
def Own (w : World) (B : Nat) (kv vv : Value) (ks vs : List Int) : Prop :=
  w.ownsRow B 3 1 kv ks.length (ints ks) ∧ w.ownsRow B 3 1 vv vs.length (ints vs) ∧ (∀ g, kv.ownBlock = some g → vv.ownBlock = some g → False)

/-- Block b is a node, its two slices own rows behind it. -/
def NB (w : World) (b : Nat) (lv lk hi : Int) (kv vv : Value) (ks vs : List Int) : Prop :=
  w.heap[b]? = some (.cells #[.int .i64 lv, .int .i64 lk, .int .i64 hi, kv, vv] 67 (0, 0)) ∧ Own w (b + 1) kv vv ks vs

theorem NB.lt {w : World} {b : Nat} {lv lk hi : Int} {kv vv : Value} {ks vs : List Int} (h : NB w b lv lk hi kv vv ks vs) : b < w.heap.size := lt_of_block h.1

theorem node_cells {w : World} {b : Nat} {c0 c1 c2 c3 c4 : Value} {t : TypeId} (h : w.heap[b]? = some (.cells #[c0, c1, c2, c3, c4] t (0, 0))) :
    (w.cell? ⟨b, 0, none⟩ = some c0 ∧ w.cell? ⟨b, 1, none⟩ = some c1 ∧ w.cell? ⟨b, 2, none⟩ = some c2 ∧ w.cell? ⟨b, 3, none⟩ = some c3 ∧ w.cell? ⟨b, 4, none⟩ = some c4) ∧
    (w.frozen? ⟨b, 0, none⟩ = false ∧ w.frozen? ⟨b, 1, none⟩ = false ∧ w.frozen? ⟨b, 2, none⟩ = false ∧ w.frozen? ⟨b, 3, none⟩ = false ∧ w.frozen? ⟨b, 4, none⟩ = false) := by
  have c := fun i => Go.Joins.cell_of_block h i
  have f := fun i => Go.Joins.unfrozen_of_block h i
  exact ⟨⟨by rw [c]; rfl, by rw [c]; rfl, by rw [c]; rfl, by rw [c]; rfl, by rw [c]; rfl⟩, ⟨f _, f _, f _, f _, f _⟩⟩

theorem block_alloc {w : World} {b : Nat} {x : Obj} (h : w.heap[b]? = some x) (o : Obj) : (w.alloc o).heap[b]? = some x := by
  rw [Below.heap_alloc _ _ _ (lt_of_block h)]; exact h
theorem block_below {w w' : World} {b : Nat} {x : Obj} (h : w.heap[b]? = some x) (hb : Below w.heap.size w w') : w'.heap[b]? = some x := by
  rw [hb.block b (lt_of_block h)]; exact h
theorem node_cells1 {w : World} {b : Nat} {c0 c1 c2 c3 c4 : Value} {t : TypeId} (h : w.heap[b]? = some (.cells #[c0, c1, c2, c3, c4] t (0, 0))) :
    ((∀ o, (w.alloc o).cell? ⟨b, 0, none⟩ = some c0) ∧ (∀ o, (w.alloc o).cell? ⟨b, 1, none⟩ = some c1) ∧ (∀ o, (w.alloc o).cell? ⟨b, 2, none⟩ = some c2) ∧ (∀ o, (w.alloc o).cell? ⟨b, 3, none⟩ = some c3) ∧ (∀ o, (w.alloc o).cell? ⟨b, 4, none⟩ = some c4)) ∧
    ((∀ o, (w.alloc o).frozen? ⟨b, 0, none⟩ = false) ∧ (∀ o, (w.alloc o).frozen? ⟨b, 1, none⟩ = false) ∧ (∀ o, (w.alloc o).frozen? ⟨b, 2, none⟩ = false) ∧ (∀ o, (w.alloc o).frozen? ⟨b, 3, none⟩ = false) ∧ (∀ o, (w.alloc o).frozen? ⟨b, 4, none⟩ = false)) := by
  have k := fun o => node_cells (block_alloc h o)
  exact ⟨⟨fun o => (k o).1.1, fun o => (k o).1.2.1, fun o => (k o).1.2.2.1, fun o => (k o).1.2.2.2.1, fun o => (k o).1.2.2.2.2⟩, ⟨fun o => (k o).2.1, fun o => (k o).2.2.1, fun o => (k o).2.2.2.1, fun o => (k o).2.2.2.2.1, fun o => (k o).2.2.2.2.2⟩⟩

theorem news_one (w : World) (x : Value) (t : TypeId) : ∀ j u, [x][j]? = some u → (w.alloc (.cells #[x] t)).cell? ((⟨w.heap.size, 0, none⟩ : Addr).add j) = some u := by
  intro j u hj
  match j, hj with
  | 0, hj =>
    simp at hj; subst hj
    simp [Addr.add]

theorem own_ne {w : World} {B : Nat} {e : TypeId} {v : Value} {n : Nat} {xs : List Value} (h : w.ownsRow B e 1 v n xs) {k : Nat} (hk : k < B) : v.ownBlock ≠ some k := fun he => by
  have := (h.lt k he).1; omega

theorem own_alloc_ne {w : World} {B : Nat} {e : TypeId} {v : Value} {n : Nat} {xs : List Value} (h : w.ownsRow B e 1 v n xs) {k : Nat} (hk : w.heap.size ≤ k) : v.ownBlock ≠ some k := fun he => by
  have := (h.lt k he).2; omega

/-- Behind 'append' to the first slice (an element in a new block o, then the law): what holds ahead of the store. -/
theorem NB.mid {w w1 : World} {b : Nat} {lv lk hi : Int} {kv vv : Value} {ks vs : List Int} {o : Obj} {row : Option Nat} (h : NB w b lv lk hi kv vv ks vs)
    (hg : (w.alloc o).grownBy w1 row) (hrow : row = kv.ownBlock ∨ row = vv.ownBlock) :
    w1.heap[b]? = some (.cells #[.int .i64 lv, .int .i64 lk, .int .i64 hi, kv, vv] 67 (0, 0)) ∧ Below (b + 1) w w1 := by
  have hlt := h.lt
  have hr : ∀ k, row = some k → b + 1 ≤ k := by
    intro k hk
    rcases hrow with e | e
    · exact (h.2.1.lt k (e ▸ hk)).1
    · exact (h.2.2.1.lt k (e ▸ hk)).1
  have hB : Below (b + 1) w w1 := ((Below.refl _ w).alloc (by omega) o).grown hg (by simp; omega) hr
  exact ⟨by rw [hB.block b (by omega)]; exact h.1, hB⟩

theorem NB.pushK {w w1 : World} {b : Nat} {lv lk hi : Int} {kv vv v' : Value} {ks vs : List Int} {o : Obj} {x : Int} (h : NB w b lv lk hi kv vv ks vs)
    (hown : w1.ownsRow (b + 1) 3 1 v' (ks.length + 1) (ints ks ++ [.int .i64 x])) (hg : (w.alloc o).grownBy w1 kv.ownBlock) (hat : v'.ownBlock = kv.ownBlock ∨ v'.ownBlock = some (w.alloc o).heap.size) :
    NB (w1.setCell ⟨b, 3, none⟩ v') b lv lk hi v' vv (ks ++ [x]) vs ∧ Below b w (w1.setCell ⟨b, 3, none⟩ v') := by
  obtain ⟨hm, hB⟩ := h.mid hg (Or.inl rfl)
  have hv : w1.ownsRow (b + 1) 3 1 vv vs.length (ints vs) := by
    refine (h.2.2.1.alloc o).kept hg ?_
    cases hvv : vv.ownBlock with
    | none => exact Or.inl rfl
    | some g => exact Or.inr fun e => h.2.2.2 g e.symm hvv
  refine ⟨⟨?_, ?_, ?_, ?_⟩, (hB.mono (Nat.le_succ _)).setCell (Nat.le_refl _) _⟩
  · rw [Go.Joins.block_setCell hm]; rfl
  · rw [List.length_append, ints_snoc]; exact ownsRow_setCell_other hown (own_ne hown (Nat.lt_succ_self _)) _
  · exact ownsRow_setCell_other hv (own_ne hv (Nat.lt_succ_self _)) _
  · intro g h1 h2
    rcases hat with e | e
    · exact h.2.2.2 g (e ▸ h1) h2
    · rw [e] at h1
      exact own_alloc_ne h.2.2.1 (k := g) (by simp at h1; omega) h2

theorem NB.pushV {w w1 : World} {b : Nat} {lv lk hi : Int} {kv vv v' : Value} {ks vs : List Int} {o : Obj} {x : Int} (h : NB w b lv lk hi kv vv ks vs)
    (hown : w1.ownsRow (b + 1) 3 1 v' (vs.length + 1) (ints vs ++ [.int .i64 x])) (hg : (w.alloc o).grownBy w1 vv.ownBlock) (hat : v'.ownBlock = vv.ownBlock ∨ v'.ownBlock = some (w.alloc o).heap.size) :
    NB (w1.setCell ⟨b, 4, none⟩ v') b lv lk hi kv v' ks (vs ++ [x]) ∧ Below b w (w1.setCell ⟨b, 4, none⟩ v') := by
  obtain ⟨hm, hB⟩ := h.mid hg (Or.inr rfl)
  have hv : w1.ownsRow (b + 1) 3 1 kv ks.length (ints ks) := by
    refine (h.2.1.alloc o).kept hg ?_
    cases hvv : kv.ownBlock with
    | none => exact Or.inl rfl
    | some g => exact Or.inr fun e => h.2.2.2 g hvv e.symm
  refine ⟨⟨?_, ?_, ?_, ?_⟩, (hB.mono (Nat.le_succ _)).setCell (Nat.le_refl _) _⟩
  · rw [Go.Joins.block_setCell hm]; rfl
  · exact ownsRow_setCell_other hv (own_ne hv (Nat.lt_succ_self _)) _
  · rw [List.length_append, ints_snoc]; exact ownsRow_setCell_other hown (own_ne hown (Nat.lt_succ_self _)) _
  · intro g h1 h2
    rcases hat with e | e
    · exact h.2.2.2 g h1 (e ▸ h2)
    · rw [e] at h2
      exact own_alloc_ne h.2.1 (k := g) (by simp at h2; omega) h1

theorem NB.new (w : World) (lv lk hi : Int) (b : Nat) (hb : b = w.heap.size) : NB (w.alloc (.cells #[.int .i64 lv, .int .i64 lk, .int .i64 hi, .slice none 0 0, .slice none 0 0] 67)) b lv lk hi (.slice none 0 0) (.slice none 0 0) [] [] :=
  ⟨hb ▸ heap_alloc_new w _, World.ownsRow_nil _ _ _ _, World.ownsRow_nil _ _ _ _, fun g h => by simp [Value.ownBlock] at h⟩

/-- What is owned in blocks from B on stays so while blocks below the heap's end stay. -/
theorem owns_below {w w' : World} {B : Nat} {e : TypeId} {v : Value} {n : Nat} {xs : List Value} (h : w.ownsRow B e 1 v n xs) (hb : Below w.heap.size w w') : w'.ownsRow B e 1 v n xs :=
  h.kept (row := none) ⟨hb.os, hb.tape, hb.output, hb.size, fun k hk _ => hb.block k hk⟩ (by cases v.ownBlock <;> simp)
theorem Own.below {w w' : World} {B : Nat} {kv vv : Value} {ks vs : List Int} (h : Own w B kv vv ks vs) (hb : Below w.heap.size w w') : Own w' B kv vv ks vs :=
  ⟨owns_below h.1 hb, owns_below h.2.1 hb, h.2.2⟩
theorem owns_mono {w : World} {B B' : Nat} {e : TypeId} {v : Value} {n : Nat} {xs : List Value} (h : w.ownsRow B e 1 v n xs) (hb : B' ≤ B) : w.ownsRow B' e 1 v n xs := by
  obtain ⟨h1, h2⟩ := h
  refine ⟨h1, ?_⟩
  rcases h2 with h2 | ⟨g, cap, cur, a, hg, r⟩
  · exact Or.inl h2
  · exact Or.inr ⟨g, cap, cur, a, by omega, r⟩
theorem Own.mono {w : World} {B B' : Nat} {kv vv : Value} {ks vs : List Int} (h : Own w B kv vv ks vs) (hb : B' ≤ B) : Own w B' kv vv ks vs :=
  ⟨owns_mono h.1 hb, owns_mono h.2.1 hb, h.2.2⟩
theorem Own.setCell {w : World} {B : Nat} {kv vv : Value} {ks vs : List Int} (h : Own w B kv vv ks vs) {a : Addr} (ha : a.block < B) (u : Value) : Own (w.setCell a u) B kv vv ks vs :=
  ⟨ownsRow_setCell_below h.1 ha u, ownsRow_setCell_below h.2.1 ha u, h.2.2⟩

theorem NB.drew {w : World} {b : Nat} {lv lk hi : Int} {kv vv : Value} {ks vs : List Int} (h : NB w b lv lk hi kv vv ks vs) : NB w.drew b lv lk hi kv vv ks vs := h
theorem NB.setEnd {w : World} {b : Nat} {lv lk hi x y : Int} {kv vv : Value} {ks vs : List Int} (h : NB w b lv lk hi kv vv ks vs) : NB ((w.setCell ⟨b, 1, none⟩ (.int .i64 x)).setCell ⟨b, 2, none⟩ (.int .i64 y)) b lv x y kv vv ks vs := by
  refine ⟨?_, (h.2.setCell (Nat.lt_succ_self _) _).setCell (Nat.lt_succ_self _) _⟩
  rw [Go.Joins.block_setCell (Go.Joins.block_setCell h.1 (i := 1) (.int .i64 x)) (i := 2)]; rfl

theorem own_form {w : World} {B : Nat} {e : TypeId} {v : Value} {n : Nat} {xs : List Value} (h : w.ownsRow B e 1 v n xs) : ∃ ao cap, v = .slice ao n cap := by
  rcases h.2 with ⟨rfl, h2⟩ | ⟨g, cap, cur, rfl, _⟩
  · exact ⟨none, 0, by rw [h2]⟩
  · exact ⟨_, _, rfl⟩

theorem owns_rd {w : World} {B : Nat} {v : Value} {xs : List Int} (h : w.ownsRow B 3 1 v xs.length (ints xs)) : Rd w v xs := by
  obtain ⟨h1, h2⟩ := h
  rcases h2 with ⟨rfl, h2⟩ | ⟨g, cap, cur, rfl, hg, hh, hn, hm, hs, ht⟩
  · exact ⟨none, 0, by rw [h2], fun hp => by omega⟩
  · refine ⟨some ⟨g, 0, none⟩, cap, rfl, fun _ => ⟨g, 0, rfl, fun j hj => ?_⟩⟩
    rw [Nat.zero_add, Go.Joins.cell_of_block hh]
    have e : (cur.toList.take (xs.length * 1))[j]? = (ints xs)[j]? := by rw [ht]
    rw [List.getElem?_take, if_pos (by omega)] at e
    rw [← Array.getElem?_toList, e]
    simp [ints, hj]
theorem Own.rdK {w : World} {B : Nat} {kv vv : Value} {ks vs : List Int} (h : Own w B kv vv ks vs) : Rd w kv ks := owns_rd h.1
theorem Own.rdV {w : World} {B : Nat} {kv vv : Value} {ks vs : List Int} (h : Own w B kv vv ks vs) : Rd w vv vs := owns_rd h.2.1
end Go.Proofs.YtajobgmnmbnhiaaGreatDoor.Sap
