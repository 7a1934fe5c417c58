/- WHAT IS PROVED HERE: tree.readFrame gives back the state whose frame it is, in lists of its own; tree.Next asks for Read of its page. Conditions: the state is one that an operation may be in (StOk). -/
import Derived.Test.YtajmiokllajcpaaDoorT6
namespace Go.Proofs.YtajmiokllajcpaaDoor.Sap
open Go.RowKit

/-- Nothing below block B has turned between two worlds but block g. -/
theorem block_gr {w w' : World} {g b : Nat} {x : Obj} (h : w.heap[b]? = some x) (hg : w.grownBy w' (some g)) (hne : b ≠ g) : w'.heap[b]? = some x := by
  rw [hg.block b (lt_of_block h) (fun e => hne (Option.some.inj e))]; exact h
/-- Four rows of the call's own, no two of them one. -/
structure Own4 (w : World) (B : Nat) (s : St) (kv vv bv pv : Value) : Prop where
  keys : w.ownsRow B 3 1 kv s.keys.length (ints s.keys)
  vals : w.ownsRow B 3 1 vv s.vals.length (ints s.vals)
  bel : w.ownsRow B 3 1 bv s.bel.length (ints s.bel)
  pts : w.ownsRow B 3 1 pv s.pts.length (ints s.pts)
  kvv : ∀ g, kv.ownBlock = some g → vv.ownBlock = some g → False
  kbv : ∀ g, kv.ownBlock = some g → bv.ownBlock = some g → False
  kpv : ∀ g, kv.ownBlock = some g → pv.ownBlock = some g → False
  vbv : ∀ g, vv.ownBlock = some g → bv.ownBlock = some g → False
  vpv : ∀ g, vv.ownBlock = some g → pv.ownBlock = some g → False
  bpv : ∀ g, bv.ownBlock = some g → pv.ownBlock = some g → False
theorem Own4.below {w w' : World} {B : Nat} {s : St} {kv vv bv pv : Value} (h : Own4 w B s kv vv bv pv) (hb : Below w.heap.size w w') : Own4 w' B s kv vv bv pv :=
  ⟨owns_below h.keys hb, owns_below h.vals hb, owns_below h.bel hb, owns_below h.pts hb, h.kvv, h.kbv, h.kpv, h.vbv, h.vpv, h.bpv⟩
theorem Own4.mono {w : World} {B B' : Nat} {s : St} {kv vv bv pv : Value} (h : Own4 w B s kv vv bv pv) (hb : B' ≤ B) : Own4 w B' s kv vv bv pv :=
  ⟨owns_mono h.keys hb, owns_mono h.vals hb, owns_mono h.bel hb, owns_mono h.pts hb, h.kvv, h.kbv, h.kpv, h.vbv, h.vpv, h.bpv⟩
theorem Own4.v {w : World} {B : Nat} {s : St} {kv vv bv pv : Value} (h : Own4 w B s kv vv bv pv) : StV w s kv vv bv pv := ⟨owns_rd h.keys, owns_rd h.vals, owns_rd h.bel, owns_rd h.pts⟩
theorem Own4.setCell {w : World} {B : Nat} {s : St} {kv vv bv pv : Value} (h : Own4 w B s kv vv bv pv) {a : Addr} (ha : a.block < B) (u : Value) : Own4 (w.setCell a u) B s kv vv bv pv :=
  ⟨ownsRow_setCell_below h.keys ha u, ownsRow_setCell_below h.vals ha u, ownsRow_setCell_below h.bel ha u, ownsRow_setCell_below h.pts ha u, h.kvv, h.kbv, h.kpv, h.vbv, h.vpv, h.bpv⟩
theorem own_sep {w : World} {B C : Nat} {e f : TypeId} {u v : Value} {n m : Nat} {xs ys : List Value} {w' : World} (h : w.ownsRow B e 1 u n xs) (k : w'.ownsRow C f 1 v m ys) (hC : w.heap.size ≤ C) : ∀ g, u.ownBlock = some g → v.ownBlock = some g → False := by
  intro g h1 h2
  have a := (h.lt g h1).2
  have b := (k.lt g h2).1
  omega

/-- What readFrame answers to the frame of the state s. -/
def FrR (s : St) (w' : World) (B : Nat) (e : Ending) : Prop :=
  ∃ kv vv bv pv, Own4 w' B s kv vv bv pv ∧ e = .returned (.tuple #[.agg #[.int .i64 s.kd, .int .i64 s.key, .int .i64 s.val, .int .i64 s.step, .int .i64 s.pg, kv, vv, bv, pv], .bool true])

theorem drop_next {s : ByteArray} {a : Nat} {x y : List UInt8} (h : s.data.toList.drop a = x ++ y) : s.data.toList.drop (a + x.length) = y := by
  rw [← List.drop_drop, h, List.drop_left]

theorem int_nat {x : Int} (h : 0 ≤ x) : ((x.toNat : Nat) : Int) = x := by omega

theorem alloc_size (w : World) (o : Obj) : (w.alloc o).heap.size = w.heap.size + 1 := by simp
def zero9 : Array Value := #[.int .i64 0, .int .i64 0, .int .i64 0, .int .i64 0, .int .i64 0, .slice none 0 0, .slice none 0 0, .slice none 0 0, .slice none 0 0]
/-- The memory of readFrame, on its way: the reader, the state, the result. -/
structure RF (w wk : World) (t : ByteArray) (p : Nat) (cells : Array Value) : Prop where
  rd : RdR wk (w.heap.size + 1) t p
  st : wk.heap[w.heap.size + 1 + 1]? = some (.cells cells 82 (0, 0))
  fr : wk.heap[w.heap.size]? = some (.cells zero9 82 (0, 0))
  bl : Below w.heap.size w wk
theorem RF.sz {w wk : World} {t : ByteArray} {p : Nat} {cells : Array Value} (h : RF w wk t p cells) : w.heap.size + 3 ≤ wk.heap.size := lt_of_block h.st
theorem RF.call {w wk w1 : World} {t : ByteArray} {p p' : Nat} {cells : Array Value} (h : RF w wk t p cells) (hg : wk.grownBy w1 (some (w.heap.size + 1))) (hR : RdR w1 (w.heap.size + 1) t p') : RF w w1 t p' cells :=
  ⟨hR, block_gr h.st hg (by omega), block_gr h.fr hg (by omega), h.bl.grown hg h.bl.size (fun k hk => by cases hk; omega)⟩
theorem RF.below {w wk w1 : World} {t : ByteArray} {p : Nat} {cells : Array Value} (h : RF w wk t p cells) (hb : Below wk.heap.size wk w1) : RF w w1 t p cells :=
  ⟨block_below h.rd hb, block_below h.st hb, block_below h.fr hb, step h.bl hb⟩
theorem RF.store {w wk : World} {t : ByteArray} {p : Nat} {cells cells' : Array Value} (h : RF w wk t p cells) (i : Nat) (v : Value) (hc : cells.setIfInBounds i v = cells') : RF w (wk.setCell ⟨w.heap.size + 1 + 1, i, none⟩ v) t p cells' := by
  refine ⟨?_, ?_, ?_, h.bl.setCell (by show w.heap.size ≤ w.heap.size + 1 + 1; omega) v⟩
  · unfold RdR; rw [Below.heap_setCell _ _ _ _ (by show w.heap.size + 1 ≠ w.heap.size + 1 + 1; omega)]; exact h.rd
  · rw [Go.Joins.block_setCell h.st, hc]
  · rw [Below.heap_setCell _ _ _ _ (by show w.heap.size ≠ w.heap.size + 1 + 1; omega)]; exact h.fr
theorem RF.spot {w wk : World} {t : ByteArray} {p : Nat} {cells : Array Value} (h : RF w wk t p cells) (i : Nat) (v : Value) (hv : cells[i]? = some v) : wk.cell? ⟨w.heap.size + 1 + 1, i, none⟩ = some v ∧ wk.frozen? ⟨w.heap.size + 1 + 1, i, none⟩ = false := ⟨cellOf h.st i v hv, Go.Joins.unfrozen_of_block h.st i⟩
theorem RF.new (w : World) (t : ByteArray) : RF w (((w.alloc (.cells zero9 82)).alloc (.cells #[.string t, .int .i64 0, .bool false] 104)).alloc (.cells zero9 82)) t 0 zero9 := by
  refine ⟨?_, ?_, ?_, ?_⟩
  · have := heap_alloc_new (w.alloc (.cells zero9 82)) (.cells #[.string t, .int .i64 0, .bool false] 104)
    rw [alloc_size] at this
    exact block_alloc this _
  · have := heap_alloc_new ((w.alloc (.cells zero9 82)).alloc (.cells #[.string t, .int .i64 0, .bool false] 104)) (.cells zero9 82)
    rw [alloc_size, alloc_size] at this
    exact this
  · exact block_alloc (block_alloc (heap_alloc_new w _) _) _
  · exact (((Below.refl _ _).alloc (Nat.le_refl _) _).alloc (by simp) _).alloc (by simp; omega) _

set_option maxRecDepth 100000 in
set_option maxHeartbeats 3200000 in
theorem readFrame_yes (s : St) (t : ByteArray) (w : World) (ht : t.data.toList = frT s) (hok : StOk s) :
    Calls Tryd.prog 42 #[.string t] w fun e w' => FrR s w' w.heap.size e ∧ Below w.heap.size w w' := by
  have htl : t.size ≤ 1000000 := by
    rw [← ba_size, ht]
    have hi := hok.i
    have l1 := nb_len _ hi.kd
    have l2 := nb_len _ hi.key
    have l3 := nb_len _ hi.val
    have l4 := nb_len _ hi.step
    have l5 := nb_len _ hi.pg
    have h1 := hi.keysL
    have h2 := hi.valsL
    have h3 := hi.belL
    have h4 := hi.ptsL
    have l6 := lst_len _ hi.keys (by omega)
    have l7 := lst_len _ hi.vals (by omega)
    have l8 := lst_len _ hi.bel (by omega)
    have l9 := lst_len _ hi.pts (by omega)
    unfold frT
    simp only [List.length_append]
    omega
  have r := hok.rng
  have hp := hok.pg
  have D0 : t.data.toList.drop 0 = nb s.kd ++ (nb s.key ++ (nb s.val ++ (nb s.step ++ (nb s.pg ++ (lst s.keys ++ (lst s.vals ++ (lst s.bel ++ (lst s.pts ++ [])))))))) := by rw [List.drop_zero, ht, List.append_nil]; rfl
  have D1 := drop_next D0
  have D2 := drop_next D1
  have D3 := drop_next D2
  have D4 := drop_next D3
  have D5 := drop_next D4
  have D6 := drop_next D5
  have D7 := drop_next D6
  have D8 := drop_next D7
  have DE : (((((((((0 + (nb s.kd).length) + (nb s.key).length) + (nb s.val).length) + (nb s.step).length) + (nb s.pg).length) + (lst s.keys).length) + (lst s.vals).length) + (lst s.bel).length) + (lst s.pts).length) = t.size := by
    rw [← ba_size, ht]
    unfold frT
    simp only [List.length_append]
    omega
  obtain ⟨p1, hp1⟩ : ∃ p, 0 + (nb s.kd).length = p := ⟨_, rfl⟩
  rw [hp1] at D1 D2 D3 D4 D5 D6 D7 D8 DE
  obtain ⟨p2, hp2⟩ : ∃ p, p1 + (nb s.key).length = p := ⟨_, rfl⟩
  rw [hp2] at D2 D3 D4 D5 D6 D7 D8 DE
  obtain ⟨p3, hp3⟩ : ∃ p, p2 + (nb s.val).length = p := ⟨_, rfl⟩
  rw [hp3] at D3 D4 D5 D6 D7 D8 DE
  obtain ⟨p4, hp4⟩ : ∃ p, p3 + (nb s.step).length = p := ⟨_, rfl⟩
  rw [hp4] at D4 D5 D6 D7 D8 DE
  obtain ⟨p5, hp5⟩ : ∃ p, p4 + (nb s.pg).length = p := ⟨_, rfl⟩
  rw [hp5] at D5 D6 D7 D8 DE
  obtain ⟨p6, hp6⟩ : ∃ p, p5 + (lst s.keys).length = p := ⟨_, rfl⟩
  rw [hp6] at D6 D7 D8 DE
  obtain ⟨p7, hp7⟩ : ∃ p, p6 + (lst s.vals).length = p := ⟨_, rfl⟩
  rw [hp7] at D7 D8 DE
  obtain ⟨p8, hp8⟩ : ∃ p, p7 + (lst s.bel).length = p := ⟨_, rfl⟩
  rw [hp8] at D8 DE
  replace D0 := hideIt D0
  replace D1 := hideIt D1
  replace D2 := hideIt D2
  replace D3 := hideIt D3
  replace D4 := hideIt D4
  replace D5 := hideIt D5
  replace D6 := hideIt D6
  replace D7 := hideIt D7
  replace D8 := hideIt D8
  replace DE := hideIt DE
  replace hp1 := hideIt hp1
  replace hp2 := hideIt hp2
  replace hp3 := hideIt hp3
  replace hp4 := hideIt hp4
  replace hp5 := hideIt hp5
  replace hp6 := hideIt hp6
  replace hp7 := hideIt hp7
  replace hp8 := hideIt hp8
  have HO := hideIt hok
  obtain ⟨n0, e0⟩ : ∃ n : Nat, s.kd = (n : Int) := ⟨s.kd.toNat, (int_nat (by omega)).symm⟩
  have u0 : n0 ≤ 100000000000000000 := by have h := r.2.1; have h2 := e0; omega
  obtain ⟨n1, e1⟩ : ∃ n : Nat, s.key = (n : Int) := ⟨s.key.toNat, (int_nat (by omega)).symm⟩
  have u1 : n1 ≤ 100000000000000000 := by have h := r.2.2.2; have h2 := e1; omega
  obtain ⟨n2, e2⟩ : ∃ n : Nat, s.val = (n : Int) := ⟨s.val.toNat, (int_nat (hok.val.1)).symm⟩
  have u2 : n2 ≤ 100000000000000000 := by have h := hok.val.2; have h2 := e2; omega
  obtain ⟨n3, e3⟩ : ∃ n : Nat, s.step = (n : Int) := ⟨s.step.toNat, (int_nat (hok.step.1)).symm⟩
  have u3 : n3 ≤ 100000000000000000 := by have h := hok.step.2; have h2 := e3; omega
  obtain ⟨n4, e4⟩ : ∃ n : Nat, s.pg = (n : Int) := ⟨s.pg.toNat, (int_nat (by omega)).symm⟩
  have u4 : n4 ≤ 100000000000000000 := by have h := hp.2; have h2 := e4; omega
  have E0 := hideIt e0
  clear e0
  have E1 := hideIt e1
  clear e1
  have E2 := hideIt e2
  clear e2
  have E3 := hideIt e3
  clear e3
  have E4 := hideIt e4
  clear e4
  clear r hp hok
  have F := hideIt (RF.new w t)
  go_enter Tryd.func42, Tryd.ntmps42
  go_wp2_with fail
  refine (rnum_any _ t 0 n0 _ _ F.out.rd (by have h := D0.out; rw [E0.out] at h; exact h) u0 htl).mono ?_
  rintro e w1 ⟨rfl, hR, hg⟩
  rw [← E0.out] at hR ⊢
  rw [hp1.out] at hR
  have F1 := F.out.call hg hR
  obtain ⟨q, f⟩ := F1.spot 0 _ rfl
  have F := hideIt (F1.store 0 (.int .i64 s.kd) (cells' := #[.int .i64 s.kd, .int .i64 0, .int .i64 0, .int .i64 0, .int .i64 0, .slice none 0 0, .slice none 0 0, .slice none 0 0, .slice none 0 0]) rfl)
  clear hR hg F1
  go_wp2_with fail
  refine (rnum_any _ t p1 n1 _ _ F.out.rd (by have h := D1.out; rw [E1.out] at h; exact h) u1 htl).mono ?_
  rintro e w2 ⟨rfl, hR, hg⟩
  rw [← E1.out] at hR ⊢
  rw [hp2.out] at hR
  have F1 := F.out.call hg hR
  obtain ⟨q, f⟩ := F1.spot 1 _ rfl
  have F := hideIt (F1.store 1 (.int .i64 s.key) (cells' := #[.int .i64 s.kd, .int .i64 s.key, .int .i64 0, .int .i64 0, .int .i64 0, .slice none 0 0, .slice none 0 0, .slice none 0 0, .slice none 0 0]) rfl)
  clear hR hg F1
  go_wp2_with fail
  refine (rnum_any _ t p2 n2 _ _ F.out.rd (by have h := D2.out; rw [E2.out] at h; exact h) u2 htl).mono ?_
  rintro e w3 ⟨rfl, hR, hg⟩
  rw [← E2.out] at hR ⊢
  rw [hp3.out] at hR
  have F1 := F.out.call hg hR
  obtain ⟨q, f⟩ := F1.spot 2 _ rfl
  have F := hideIt (F1.store 2 (.int .i64 s.val) (cells' := #[.int .i64 s.kd, .int .i64 s.key, .int .i64 s.val, .int .i64 0, .int .i64 0, .slice none 0 0, .slice none 0 0, .slice none 0 0, .slice none 0 0]) rfl)
  clear hR hg F1
  go_wp2_with fail
  refine (rnum_any _ t p3 n3 _ _ F.out.rd (by have h := D3.out; rw [E3.out] at h; exact h) u3 htl).mono ?_
  rintro e w4 ⟨rfl, hR, hg⟩
  rw [← E3.out] at hR ⊢
  rw [hp4.out] at hR
  have F1 := F.out.call hg hR
  obtain ⟨q, f⟩ := F1.spot 3 _ rfl
  have F := hideIt (F1.store 3 (.int .i64 s.step) (cells' := #[.int .i64 s.kd, .int .i64 s.key, .int .i64 s.val, .int .i64 s.step, .int .i64 0, .slice none 0 0, .slice none 0 0, .slice none 0 0, .slice none 0 0]) rfl)
  clear hR hg F1
  go_wp2_with fail
  refine (rnum_any _ t p4 n4 _ _ F.out.rd (by have h := D4.out; rw [E4.out] at h; exact h) u4 htl).mono ?_
  rintro e w5 ⟨rfl, hR, hg⟩
  rw [← E4.out] at hR ⊢
  rw [hp5.out] at hR
  have F1 := F.out.call hg hR
  obtain ⟨q, f⟩ := F1.spot 4 _ rfl
  have F := hideIt (F1.store 4 (.int .i64 s.pg) (cells' := #[.int .i64 s.kd, .int .i64 s.key, .int .i64 s.val, .int .i64 s.step, .int .i64 s.pg, .slice none 0 0, .slice none 0 0, .slice none 0 0, .slice none 0 0]) rfl)
  clear hR hg F1
  have F0 := F
  go_wp2_with fail
  refine (rlist_any _ t p5 s.keys _ _ F.out.rd D5.out (by have := HO.out.kl12; omega) HO.out.keys htl).mono ?_
  rintro e w6 ⟨xv, rfl, ho, hR, hg⟩
  obtain ⟨ak, ck, rfl⟩ := own_form ho
  rw [hp6.out] at hR
  have F1 := F.out.call hg hR
  obtain ⟨q, f⟩ := F1.spot 5 _ rfl
  have F := hideIt (F1.store 5 (.slice ak s.keys.length ck) (cells' := #[.int .i64 s.kd, .int .i64 s.key, .int .i64 s.val, .int .i64 s.step, .int .i64 s.pg, .slice ak s.keys.length ck, .slice none 0 0, .slice none 0 0, .slice none 0 0]) rfl)
  have O5 := hideIt (owns_mono ho (show w.heap.size + 1 + 1 + 1 ≤ _ from F0.out.sz))
  clear hR hg F1 ho
  replace O5 := hideIt (ownsRow_setCell_below O5.out (a := ⟨w.heap.size + 1 + 1, 5, none⟩) (Nat.lt_succ_self _) (.slice ak s.keys.length ck))
  have F0 := F
  have O5z := O5
  go_wp2_with fail
  refine (rlist_any _ t p6 s.vals _ _ F.out.rd D6.out (by have := HO.out.kl12; have := HO.out.kl; omega) HO.out.vals htl).mono ?_
  rintro e w7 ⟨xv, rfl, ho, hR, hg⟩
  obtain ⟨av, cv, rfl⟩ := own_form ho
  rw [hp7.out] at hR
  have F1 := F.out.call hg hR
  replace O5 := hideIt (owns_gr O5.out hg (by omega))
  have S56 := hideIt (own_sep O5z.out ho (Nat.le_refl _))
  obtain ⟨q, f⟩ := F1.spot 6 _ rfl
  have F := hideIt (F1.store 6 (.slice av s.vals.length cv) (cells' := #[.int .i64 s.kd, .int .i64 s.key, .int .i64 s.val, .int .i64 s.step, .int .i64 s.pg, .slice ak s.keys.length ck, .slice av s.vals.length cv, .slice none 0 0, .slice none 0 0]) rfl)
  have O6 := hideIt (owns_mono ho (show w.heap.size + 1 + 1 + 1 ≤ _ from F0.out.sz))
  clear hR hg F1 ho
  replace O5 := hideIt (ownsRow_setCell_below O5.out (a := ⟨w.heap.size + 1 + 1, 6, none⟩) (Nat.lt_succ_self _) (.slice av s.vals.length cv))
  replace O6 := hideIt (ownsRow_setCell_below O6.out (a := ⟨w.heap.size + 1 + 1, 6, none⟩) (Nat.lt_succ_self _) (.slice av s.vals.length cv))
  have F0 := F
  have O5z := O5
  have O6z := O6
  go_wp2_with fail
  refine (rlist_any _ t p7 s.bel _ _ F.out.rd D7.out (HO.out.bl64) HO.out.belFr htl).mono ?_
  rintro e w8 ⟨xv, rfl, ho, hR, hg⟩
  obtain ⟨ab, cb, rfl⟩ := own_form ho
  rw [hp8.out] at hR
  have F1 := F.out.call hg hR
  replace O5 := hideIt (owns_gr O5.out hg (by omega))
  replace O6 := hideIt (owns_gr O6.out hg (by omega))
  have S57 := hideIt (own_sep O5z.out ho (Nat.le_refl _))
  have S67 := hideIt (own_sep O6z.out ho (Nat.le_refl _))
  obtain ⟨q, f⟩ := F1.spot 7 _ rfl
  have F := hideIt (F1.store 7 (.slice ab s.bel.length cb) (cells' := #[.int .i64 s.kd, .int .i64 s.key, .int .i64 s.val, .int .i64 s.step, .int .i64 s.pg, .slice ak s.keys.length ck, .slice av s.vals.length cv, .slice ab s.bel.length cb, .slice none 0 0]) rfl)
  have O7 := hideIt (owns_mono ho (show w.heap.size + 1 + 1 + 1 ≤ _ from F0.out.sz))
  clear hR hg F1 ho
  replace O5 := hideIt (ownsRow_setCell_below O5.out (a := ⟨w.heap.size + 1 + 1, 7, none⟩) (Nat.lt_succ_self _) (.slice ab s.bel.length cb))
  replace O6 := hideIt (ownsRow_setCell_below O6.out (a := ⟨w.heap.size + 1 + 1, 7, none⟩) (Nat.lt_succ_self _) (.slice ab s.bel.length cb))
  replace O7 := hideIt (ownsRow_setCell_below O7.out (a := ⟨w.heap.size + 1 + 1, 7, none⟩) (Nat.lt_succ_self _) (.slice ab s.bel.length cb))
  have F0 := F
  have O5z := O5
  have O6z := O6
  have O7z := O7
  go_wp2_with fail
  refine (rlist_any _ t p8 s.pts _ _ F.out.rd D8.out (by have := HO.out.bl64; have := HO.out.bl; omega) HO.out.pts htl).mono ?_
  rintro e w9 ⟨xv, rfl, ho, hR, hg⟩
  obtain ⟨ap, cp, rfl⟩ := own_form ho
  rw [DE.out] at hR
  have F1 := F.out.call hg hR
  replace O5 := hideIt (owns_gr O5.out hg (by omega))
  replace O6 := hideIt (owns_gr O6.out hg (by omega))
  replace O7 := hideIt (owns_gr O7.out hg (by omega))
  have S58 := hideIt (own_sep O5z.out ho (Nat.le_refl _))
  have S68 := hideIt (own_sep O6z.out ho (Nat.le_refl _))
  have S78 := hideIt (own_sep O7z.out ho (Nat.le_refl _))
  obtain ⟨q, f⟩ := F1.spot 8 _ rfl
  obtain ⟨q0, -⟩ := F1.spot 0 _ rfl
  obtain ⟨q1, -⟩ := F1.spot 1 _ rfl
  obtain ⟨q2, -⟩ := F1.spot 2 _ rfl
  obtain ⟨q3, -⟩ := F1.spot 3 _ rfl
  obtain ⟨q4, -⟩ := F1.spot 4 _ rfl
  obtain ⟨q5, -⟩ := F1.spot 5 _ rfl
  obtain ⟨q6, -⟩ := F1.spot 6 _ rfl
  obtain ⟨q7, -⟩ := F1.spot 7 _ rfl
  obtain ⟨⟨c0, c1, c2⟩, -⟩ := F1.rd.cells
  have F := hideIt (F1.store 8 (.slice ap s.pts.length cp) (cells' := #[.int .i64 s.kd, .int .i64 s.key, .int .i64 s.val, .int .i64 s.step, .int .i64 s.pg, .slice ak s.keys.length ck, .slice av s.vals.length cv, .slice ab s.bel.length cb, .slice ap s.pts.length cp]) rfl)
  have O8 := hideIt (owns_mono ho (show w.heap.size + 1 + 1 + 1 ≤ _ from F0.out.sz))
  clear hR hg F1 ho
  replace O5 := hideIt (ownsRow_setCell_below O5.out (a := ⟨w.heap.size + 1 + 1, 8, none⟩) (Nat.lt_succ_self _) (.slice ap s.pts.length cp))
  replace O6 := hideIt (ownsRow_setCell_below O6.out (a := ⟨w.heap.size + 1 + 1, 8, none⟩) (Nat.lt_succ_self _) (.slice ap s.pts.length cp))
  replace O7 := hideIt (ownsRow_setCell_below O7.out (a := ⟨w.heap.size + 1 + 1, 8, none⟩) (Nat.lt_succ_self _) (.slice ap s.pts.length cp))
  replace O8 := hideIt (ownsRow_setCell_below O8.out (a := ⟨w.heap.size + 1 + 1, 8, none⟩) (Nat.lt_succ_self _) (.slice ap s.pts.length cp))
  have hneq : ((t.size : Int) != (t.size : Int)) = false := by simp
  go_wp2_with fail
  refine (rightOp_any s.kd s.key s.val _).mono ?_
  rintro e w10 ⟨rfl, hb⟩
  rw [HO.out.op]
  have G := hideIt (F.out.below hb)
  replace O5 := hideIt (owns_below O5.out hb)
  replace O6 := hideIt (owns_below O6.out hb)
  replace O7 := hideIt (owns_below O7.out hb)
  replace O8 := hideIt (owns_below O8.out hb)
  have hpg : decide ((64 : Int) ≤ s.pg) = false := by rw [decide_eq_false_iff_not]; have := HO.out.pg; omega
  clear hb F q f c0 c1 c2 q0 q1 q2 q3 q4 q5 q6 q7
  obtain ⟨q0, -⟩ := G.out.spot 0 _ rfl
  obtain ⟨q1, -⟩ := G.out.spot 1 _ rfl
  obtain ⟨q2, -⟩ := G.out.spot 2 _ rfl
  obtain ⟨q3, -⟩ := G.out.spot 3 _ rfl
  obtain ⟨q4, -⟩ := G.out.spot 4 _ rfl
  obtain ⟨q5, -⟩ := G.out.spot 5 _ rfl
  obtain ⟨q6, -⟩ := G.out.spot 6 _ rfl
  obtain ⟨q7, -⟩ := G.out.spot 7 _ rfl
  obtain ⟨q8, -⟩ := G.out.spot 8 _ rfl
  go_wp2_with fail
  refine (rightSeen_yes s _ _ _ _ _ ⟨owns_rd O5.out, owns_rd O6.out, owns_rd O7.out, owns_rd O8.out⟩ HO.out).mono ?_
  rintro e w11 ⟨rfl, hb⟩
  have F := hideIt (G.out.below hb)
  replace O5 := hideIt (owns_below O5.out hb)
  replace O6 := hideIt (owns_below O6.out hb)
  replace O7 := hideIt (owns_below O7.out hb)
  replace O8 := hideIt (owns_below O8.out hb)
  clear hb G q0 q1 q2 q3 q4 q5 q6 q7 q8
  obtain ⟨q0, -⟩ := F.out.spot 0 _ rfl
  obtain ⟨q1, -⟩ := F.out.spot 1 _ rfl
  obtain ⟨q2, -⟩ := F.out.spot 2 _ rfl
  obtain ⟨q3, -⟩ := F.out.spot 3 _ rfl
  obtain ⟨q4, -⟩ := F.out.spot 4 _ rfl
  obtain ⟨q5, -⟩ := F.out.spot 5 _ rfl
  obtain ⟨q6, -⟩ := F.out.spot 6 _ rfl
  obtain ⟨q7, -⟩ := F.out.spot 7 _ rfl
  obtain ⟨q8, -⟩ := F.out.spot 8 _ rfl
  have r0 := cellOf F.out.fr 0 _ rfl
  have r1 := cellOf F.out.fr 1 _ rfl
  have r2 := cellOf F.out.fr 2 _ rfl
  have r3 := cellOf F.out.fr 3 _ rfl
  have r4 := cellOf F.out.fr 4 _ rfl
  have r5 := cellOf F.out.fr 5 _ rfl
  have r6 := cellOf F.out.fr 6 _ rfl
  have r7 := cellOf F.out.fr 7 _ rfl
  have r8 := cellOf F.out.fr 8 _ rfl
  have f0 := Go.Joins.unfrozen_of_block F.out.fr 0
  have f1 := Go.Joins.unfrozen_of_block F.out.fr 1
  have f2 := Go.Joins.unfrozen_of_block F.out.fr 2
  have f3 := Go.Joins.unfrozen_of_block F.out.fr 3
  have f4 := Go.Joins.unfrozen_of_block F.out.fr 4
  have f5 := Go.Joins.unfrozen_of_block F.out.fr 5
  have f6 := Go.Joins.unfrozen_of_block F.out.fr 6
  have f7 := Go.Joins.unfrozen_of_block F.out.fr 7
  have f8 := Go.Joins.unfrozen_of_block F.out.fr 8
  have B := hideIt F.out.bl
  have W4 : Hid (Own4 w11 (w.heap.size + 1 + 1 + 1) s (.slice ak s.keys.length ck) (.slice av s.vals.length cv) (.slice ab s.bel.length cb) (.slice ap s.pts.length cp)) := ⟨O5.out, O6.out, O7.out, O8.out, S56.out, S57.out, S58.out, S67.out, S68.out, S78.out⟩
  clear F O5 O6 O7 O8 S56 S57 S58 S67 S68 S78
  go_wp2
  refine bodyPost_ret (v := .tuple #[.agg #[.int .i64 s.kd, .int .i64 s.key, .int .i64 s.val, .int .i64 s.step, .int .i64 s.pg, .slice ak s.keys.length ck, .slice av s.vals.length cv, .slice ab s.bel.length cb, .slice ap s.pts.length cp], .bool true]) (by simp [results, Tryd.results42, go_sem, *]) rfl ⟨⟨_, _, _, _, ?_, rfl⟩, ?_⟩
  · refine Own4.mono (B := w.heap.size + 1 + 1 + 1) ?_ (by omega)
    repeat (refine Own4.setCell ?_ (by simp; omega) _)
    exact W4.out
  · repeat (refine Below.setCell ?_ (by simp) _)
    exact B.out
end Go.Proofs.YtajmiokllajcpaaDoor.Sap
