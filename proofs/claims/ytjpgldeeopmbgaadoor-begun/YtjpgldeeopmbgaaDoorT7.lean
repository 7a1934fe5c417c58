/- WHAT IS PROVED HERE: tree.readFrame gives back the state whose frame it is, in lists of its own; tree.Next asks for Read of its page. Conditions: the state is one that an operation may be in (StOk). -/
import Derived.Test.YtjpgldeeopmbgaaDoorT6
namespace Go.Proofs.YtjpgldeeopmbgaaDoor.Sap
open Go.RowKit

/-- Four rows of the call's own, no two of them one. -/
structure Own4 (w : World) (B : Nat) (s : St) (kv vv bv pv : Value) : Prop where
  keys : w.ownsRow B 3 1 kv s.keys.length (ints s.keys)
  vals : w.ownsRow B 3 1 vv s.vals.length (ints s.vals)
  bel : w.ownsRow B 3 1 bv s.bel.length (ints s.bel)
  pts : w.ownsRow B 3 1 pv s.pts.length (ints s.pts)
  kvv : ∀ g, kv.ownBlock = some g → vv.ownBlock = some g → False
  kbv : ∀ g, kv.ownBlock = some g → bv.ownBlock = some g → False
  kpv : ∀ g, kv.ownBlock = some g → pv.ownBlock = some g → False
  vbv : ∀ g, vv.ownBlock = some g → bv.ownBlock = some g → False
  vpv : ∀ g, vv.ownBlock = some g → pv.ownBlock = some g → False
  bpv : ∀ g, bv.ownBlock = some g → pv.ownBlock = some g → False
theorem Own4.below {w w' : World} {B : Nat} {s : St} {kv vv bv pv : Value} (h : Own4 w B s kv vv bv pv) (hb : Below w.heap.size w w') : Own4 w' B s kv vv bv pv :=
  ⟨owns_below h.keys hb, owns_below h.vals hb, owns_below h.bel hb, owns_below h.pts hb, h.kvv, h.kbv, h.kpv, h.vbv, h.vpv, h.bpv⟩
theorem Own4.mono {w : World} {B B' : Nat} {s : St} {kv vv bv pv : Value} (h : Own4 w B s kv vv bv pv) (hb : B' ≤ B) : Own4 w B' s kv vv bv pv :=
  ⟨owns_mono h.keys hb, owns_mono h.vals hb, owns_mono h.bel hb, owns_mono h.pts hb, h.kvv, h.kbv, h.kpv, h.vbv, h.vpv, h.bpv⟩
theorem Own4.v {w : World} {B : Nat} {s : St} {kv vv bv pv : Value} (h : Own4 w B s kv vv bv pv) : StV w s kv vv bv pv := ⟨owns_rd h.keys, owns_rd h.vals, owns_rd h.bel, owns_rd h.pts⟩
theorem Own4.setCell {w : World} {B : Nat} {s : St} {kv vv bv pv : Value} (h : Own4 w B s kv vv bv pv) {a : Addr} (ha : a.block < B) (u : Value) : Own4 (w.setCell a u) B s kv vv bv pv :=
  ⟨ownsRow_setCell_below h.keys ha u, ownsRow_setCell_below h.vals ha u, ownsRow_setCell_below h.bel ha u, ownsRow_setCell_below h.pts ha u, h.kvv, h.kbv, h.kpv, h.vbv, h.vpv, h.bpv⟩
/-- What readFrame answers to the frame of the state s. -/
def FrR (s : St) (w' : World) (B : Nat) (e : Ending) : Prop :=
  ∃ kv vv bv pv, Own4 w' B s kv vv bv pv ∧ e = .returned (.tuple #[.agg #[.int .i64 s.kd, .int .i64 s.key, .int .i64 s.val, .int .i64 s.step, .int .i64 s.pg, kv, vv, bv, pv, .string s.sw, .int .i64 s.ver, .bool s.fnd, .int .i64 s.va], .bool true])

def zeroS : Array Value := #[.int .i64 0, .int .i64 0, .int .i64 0, .int .i64 0, .int .i64 0, .slice none 0 0, .slice none 0 0, .slice none 0 0, .slice none 0 0, .string ⟨#[]⟩, .int .i64 0, .bool false, .int .i64 0]
/-- The memory of readFrame, on its way: the reader, the state, the result. -/
structure RF (w wk : World) (t : ByteArray) (p : Nat) (cells : Array Value) : Prop where
  rd : RdR wk (w.heap.size + 1) t p
  st : wk.heap[w.heap.size + 1 + 1]? = some (.cells cells 104 (0, 0))
  fr : wk.heap[w.heap.size]? = some (.cells zeroS 104 (0, 0))
  bl : Below w.heap.size w wk
theorem RF.sz {w wk : World} {t : ByteArray} {p : Nat} {cells : Array Value} (h : RF w wk t p cells) : w.heap.size + 3 ≤ wk.heap.size := lt_of_block h.st
theorem RF.call {w wk w1 : World} {t : ByteArray} {p p' : Nat} {cells : Array Value} (h : RF w wk t p cells) (hg : wk.grownBy w1 (some (w.heap.size + 1))) (hR : RdR w1 (w.heap.size + 1) t p') : RF w w1 t p' cells :=
  ⟨hR, block_gr h.st hg (by omega), block_gr h.fr hg (by omega), h.bl.grown hg h.bl.size (fun k hk => by cases hk; omega)⟩
theorem RF.below {w wk w1 : World} {t : ByteArray} {p : Nat} {cells : Array Value} (h : RF w wk t p cells) (hb : Below wk.heap.size wk w1) : RF w w1 t p cells :=
  ⟨block_below h.rd hb, block_below h.st hb, block_below h.fr hb, step h.bl hb⟩
theorem RF.store {w wk : World} {t : ByteArray} {p : Nat} {cells cells' : Array Value} (h : RF w wk t p cells) (i : Nat) (v : Value) (hc : cells.setIfInBounds i v = cells') : RF w (wk.setCell ⟨w.heap.size + 1 + 1, i, none⟩ v) t p cells' := by
  refine ⟨?_, ?_, ?_, h.bl.setCell (by show w.heap.size ≤ w.heap.size + 1 + 1; omega) v⟩
  · unfold RdR; rw [Below.heap_setCell _ _ _ _ (by show w.heap.size + 1 ≠ w.heap.size + 1 + 1; omega)]; exact h.rd
  · rw [Go.Joins.block_setCell h.st, hc]
  · rw [Below.heap_setCell _ _ _ _ (by show w.heap.size ≠ w.heap.size + 1 + 1; omega)]; exact h.fr
theorem RF.spot {w wk : World} {t : ByteArray} {p : Nat} {cells : Array Value} (h : RF w wk t p cells) (i : Nat) (v : Value) (hv : cells[i]? = some v) : wk.cell? ⟨w.heap.size + 1 + 1, i, none⟩ = some v ∧ wk.frozen? ⟨w.heap.size + 1 + 1, i, none⟩ = false := ⟨cellOf h.st i v hv, Go.Joins.unfrozen_of_block h.st i⟩
theorem RF.new (w : World) (t : ByteArray) : RF w (((w.alloc (.cells zeroS 104)).alloc (.cells #[.string t, .int .i64 0, .bool false] 131)).alloc (.cells zeroS 104)) t 0 zeroS := by
  refine ⟨?_, ?_, ?_, ?_⟩
  · have := heap_alloc_new (w.alloc (.cells zeroS 104)) (.cells #[.string t, .int .i64 0, .bool false] 131)
    rw [alloc_size] at this
    exact block_alloc this _
  · have := heap_alloc_new ((w.alloc (.cells zeroS 104)).alloc (.cells #[.string t, .int .i64 0, .bool false] 131)) (.cells zeroS 104)
    rw [alloc_size, alloc_size] at this
    exact this
  · exact block_alloc (block_alloc (heap_alloc_new w _) _) _
  · exact (((Below.refl _ _).alloc (Nat.le_refl _) _).alloc (by simp) _).alloc (by simp; omega) _

set_option maxRecDepth 100000 in
set_option maxHeartbeats 6400000 in
theorem readFrame_yes (s : St) (t : ByteArray) (w : World) (ht : t.data.toList = frT s) (hok : StOk s) :
    Calls Tryd.prog 59 #[.string t] w fun e w' => FrR s w' w.heap.size e ∧ Below w.heap.size w w' := by
  have hi := hok.i
  have l_kd := nb_len _ hi.kd
  have l_key := nb_len _ hi.key
  have l_val := nb_len _ hi.val
  have l_step := nb_len _ hi.step
  have l_pg := nb_len _ hi.pg
  have k_keys := hi.keysL
  have l_keys := lst_len _ hi.keys (by omega)
  have k_vals := hi.valsL
  have l_vals := lst_len _ hi.vals (by omega)
  have k_bel := hi.belL
  have l_bel := lst_len _ hi.bel (by omega)
  have k_pts := hi.ptsL
  have l_pts := lst_len _ hi.pts (by omega)
  have l_ver := nb_len _ hi.ver
  have l_fnd := nb_len _ (fl_I s.fnd)
  have l_va := nb_len _ hi.va
  have k_sw := hi.swL
  have l_sw := nb_len (s.sw.size : Int) (by unfold I64; omega)
  have m_sw := ba_size s.sw
  have htl : t.size ≤ 1000000 := by
    rw [← ba_size, ht]
    unfold frT
    simp only [List.length_append]
    omega
  have r := hok.rng
  have hp := hok.pg
  have D0 : t.data.toList.drop 0 = nb s.kd ++ (nb s.key ++ (nb s.val ++ (nb s.step ++ (nb s.pg ++ (lst s.keys ++ (lst s.vals ++ (lst s.bel ++ (lst s.pts ++ (nb s.ver ++ (nb (fl s.fnd) ++ (nb s.va ++ (nb (s.sw.size : Int) ++ (s.sw.data.toList))))))))))))) := by rw [List.drop_zero, ht]; rfl
  have D1 := drop_next D0
  have D2 := drop_next D1
  have D3 := drop_next D2
  have D4 := drop_next D3
  have D5 := drop_next D4
  have D6 := drop_next D5
  have D7 := drop_next D6
  have D8 := drop_next D7
  have D9 := drop_next D8
  have D10 := drop_next D9
  have D11 := drop_next D10
  have D12 := drop_next D11
  obtain ⟨p1, hp1⟩ : ∃ p, 0 + (nb s.kd).length = p := ⟨_, rfl⟩
  rw [hp1] at D1 D2 D3 D4 D5 D6 D7 D8 D9 D10 D11 D12
  obtain ⟨p2, hp2⟩ : ∃ p, p1 + (nb s.key).length = p := ⟨_, rfl⟩
  rw [hp2] at D2 D3 D4 D5 D6 D7 D8 D9 D10 D11 D12
  obtain ⟨p3, hp3⟩ : ∃ p, p2 + (nb s.val).length = p := ⟨_, rfl⟩
  rw [hp3] at D3 D4 D5 D6 D7 D8 D9 D10 D11 D12
  obtain ⟨p4, hp4⟩ : ∃ p, p3 + (nb s.step).length = p := ⟨_, rfl⟩
  rw [hp4] at D4 D5 D6 D7 D8 D9 D10 D11 D12
  obtain ⟨p5, hp5⟩ : ∃ p, p4 + (nb s.pg).length = p := ⟨_, rfl⟩
  rw [hp5] at D5 D6 D7 D8 D9 D10 D11 D12
  obtain ⟨p6, hp6⟩ : ∃ p, p5 + (lst s.keys).length = p := ⟨_, rfl⟩
  rw [hp6] at D6 D7 D8 D9 D10 D11 D12
  obtain ⟨p7, hp7⟩ : ∃ p, p6 + (lst s.vals).length = p := ⟨_, rfl⟩
  rw [hp7] at D7 D8 D9 D10 D11 D12
  obtain ⟨p8, hp8⟩ : ∃ p, p7 + (lst s.bel).length = p := ⟨_, rfl⟩
  rw [hp8] at D8 D9 D10 D11 D12
  obtain ⟨p9, hp9⟩ : ∃ p, p8 + (lst s.pts).length = p := ⟨_, rfl⟩
  rw [hp9] at D9 D10 D11 D12
  obtain ⟨p10, hp10⟩ : ∃ p, p9 + (nb s.ver).length = p := ⟨_, rfl⟩
  rw [hp10] at D10 D11 D12
  obtain ⟨p11, hp11⟩ : ∃ p, p10 + (nb (fl s.fnd)).length = p := ⟨_, rfl⟩
  rw [hp11] at D11 D12
  obtain ⟨p12, hp12⟩ : ∃ p, p11 + (nb s.va).length = p := ⟨_, rfl⟩
  rw [hp12] at D12
  replace D0 := hideIt D0
  replace D1 := hideIt D1
  replace D2 := hideIt D2
  replace D3 := hideIt D3
  replace D4 := hideIt D4
  replace D5 := hideIt D5
  replace D6 := hideIt D6
  replace D7 := hideIt D7
  replace D8 := hideIt D8
  replace D9 := hideIt D9
  replace D10 := hideIt D10
  replace D11 := hideIt D11
  replace D12 := hideIt D12
  replace hp1 := hideIt hp1
  replace hp2 := hideIt hp2
  replace hp3 := hideIt hp3
  replace hp4 := hideIt hp4
  replace hp5 := hideIt hp5
  replace hp6 := hideIt hp6
  replace hp7 := hideIt hp7
  replace hp8 := hideIt hp8
  replace hp9 := hideIt hp9
  replace hp10 := hideIt hp10
  replace hp11 := hideIt hp11
  replace hp12 := hideIt hp12
  have HO := hideIt hok
  obtain ⟨n0, e0⟩ : ∃ n : Nat, s.kd = (n : Int) := ⟨s.kd.toNat, (int_nat (by omega)).symm⟩
  have u0 : n0 ≤ 100000000000000000 := by have h := r.2.1; have h2 := e0; omega
  obtain ⟨n1, e1⟩ : ∃ n : Nat, s.key = (n : Int) := ⟨s.key.toNat, (int_nat (by omega)).symm⟩
  have u1 : n1 ≤ 100000000000000000 := by have h := r.2.2.2; have h2 := e1; omega
  obtain ⟨n2, e2⟩ : ∃ n : Nat, s.val = (n : Int) := ⟨s.val.toNat, (int_nat (hok.val.1)).symm⟩
  have u2 : n2 ≤ 100000000000000000 := by have h := hok.val.2; have h2 := e2; omega
  obtain ⟨n3, e3⟩ : ∃ n : Nat, s.step = (n : Int) := ⟨s.step.toNat, (int_nat (hok.step.1)).symm⟩
  have u3 : n3 ≤ 100000000000000000 := by have h := hok.step.2; have h2 := e3; omega
  obtain ⟨n4, e4⟩ : ∃ n : Nat, s.pg = (n : Int) := ⟨s.pg.toNat, (int_nat (by omega)).symm⟩
  have u4 : n4 ≤ 100000000000000000 := by have h := hp.2; have h2 := e4; omega
  obtain ⟨n9, e9⟩ : ∃ n : Nat, s.ver = (n : Int) := ⟨s.ver.toNat, (int_nat (hok.ver.1)).symm⟩
  have u9 : n9 ≤ 100000000000000000 := by have h := hok.ver.2; have h2 := e9; omega
  obtain ⟨n11, e11⟩ : ∃ n : Nat, s.va = (n : Int) := ⟨s.va.toNat, (int_nat (hok.va.1)).symm⟩
  have u11 : n11 ≤ 100000000000000000 := by have h := hok.va.2; have h2 := e11; omega
  have E0 := hideIt e0
  clear e0
  have E1 := hideIt e1
  clear e1
  have E2 := hideIt e2
  clear e2
  have E3 := hideIt e3
  clear e3
  have E4 := hideIt e4
  clear e4
  have E9 := hideIt e9
  clear e9
  have E11 := hideIt e11
  clear e11
  clear r hp hok hi l_kd l_key l_val l_step l_pg l_keys l_vals l_bel l_pts l_ver l_fnd l_va l_sw k_keys k_vals k_bel k_pts k_sw m_sw
  have F := hideIt (RF.new w t)
  go_enter Tryd.func59, Tryd.ntmps59
  have F0 := F
  go_wp2_with fail
  refine (rnum_any _ t 0 n0 _ _ F.out.rd (by have h := D0.out; rw [E0.out] at h; exact h) u0 htl).mono ?_
  rintro e w1 ⟨rfl, hR, hg⟩
  rw [← E0.out] at hR ⊢
  rw [hp1.out] at hR
  have F1 := F.out.call hg hR
  obtain ⟨q, f⟩ := F1.spot 0 _ rfl
  have F := hideIt (F1.store 0 (.int .i64 s.kd) (cells' := #[.int .i64 s.kd, .int .i64 0, .int .i64 0, .int .i64 0, .int .i64 0, .slice none 0 0, .slice none 0 0, .slice none 0 0, .slice none 0 0, .string ⟨#[]⟩, .int .i64 0, .bool false, .int .i64 0]) rfl)
  clear hR hg F1 F0
  have F0 := F
  go_wp2_with fail
  refine (rnum_any _ t p1 n1 _ _ F.out.rd (by have h := D1.out; rw [E1.out] at h; exact h) u1 htl).mono ?_
  rintro e w2 ⟨rfl, hR, hg⟩
  rw [← E1.out] at hR ⊢
  rw [hp2.out] at hR
  have F1 := F.out.call hg hR
  obtain ⟨q, f⟩ := F1.spot 1 _ rfl
  have F := hideIt (F1.store 1 (.int .i64 s.key) (cells' := #[.int .i64 s.kd, .int .i64 s.key, .int .i64 0, .int .i64 0, .int .i64 0, .slice none 0 0, .slice none 0 0, .slice none 0 0, .slice none 0 0, .string ⟨#[]⟩, .int .i64 0, .bool false, .int .i64 0]) rfl)
  clear hR hg F1 F0
  have F0 := F
  go_wp2_with fail
  refine (rnum_any _ t p2 n2 _ _ F.out.rd (by have h := D2.out; rw [E2.out] at h; exact h) u2 htl).mono ?_
  rintro e w3 ⟨rfl, hR, hg⟩
  rw [← E2.out] at hR ⊢
  rw [hp3.out] at hR
  have F1 := F.out.call hg hR
  obtain ⟨q, f⟩ := F1.spot 2 _ rfl
  have F := hideIt (F1.store 2 (.int .i64 s.val) (cells' := #[.int .i64 s.kd, .int .i64 s.key, .int .i64 s.val, .int .i64 0, .int .i64 0, .slice none 0 0, .slice none 0 0, .slice none 0 0, .slice none 0 0, .string ⟨#[]⟩, .int .i64 0, .bool false, .int .i64 0]) rfl)
  clear hR hg F1 F0
  have F0 := F
  go_wp2_with fail
  refine (rnum_any _ t p3 n3 _ _ F.out.rd (by have h := D3.out; rw [E3.out] at h; exact h) u3 htl).mono ?_
  rintro e w4 ⟨rfl, hR, hg⟩
  rw [← E3.out] at hR ⊢
  rw [hp4.out] at hR
  have F1 := F.out.call hg hR
  obtain ⟨q, f⟩ := F1.spot 3 _ rfl
  have F := hideIt (F1.store 3 (.int .i64 s.step) (cells' := #[.int .i64 s.kd, .int .i64 s.key, .int .i64 s.val, .int .i64 s.step, .int .i64 0, .slice none 0 0, .slice none 0 0, .slice none 0 0, .slice none 0 0, .string ⟨#[]⟩, .int .i64 0, .bool false, .int .i64 0]) rfl)
  clear hR hg F1 F0
  have F0 := F
  go_wp2_with fail
  refine (rnum_any _ t p4 n4 _ _ F.out.rd (by have h := D4.out; rw [E4.out] at h; exact h) u4 htl).mono ?_
  rintro e w5 ⟨rfl, hR, hg⟩
  rw [← E4.out] at hR ⊢
  rw [hp5.out] at hR
  have F1 := F.out.call hg hR
  obtain ⟨q, f⟩ := F1.spot 4 _ rfl
  have F := hideIt (F1.store 4 (.int .i64 s.pg) (cells' := #[.int .i64 s.kd, .int .i64 s.key, .int .i64 s.val, .int .i64 s.step, .int .i64 s.pg, .slice none 0 0, .slice none 0 0, .slice none 0 0, .slice none 0 0, .string ⟨#[]⟩, .int .i64 0, .bool false, .int .i64 0]) rfl)
  clear hR hg F1 F0
  have F0 := F
  go_wp2_with fail
  refine (rlist_any _ t p5 s.keys _ _ F.out.rd D5.out (by have := HO.out.kl12; omega) HO.out.keys htl).mono ?_
  rintro e w6 ⟨xv, rfl, ho, hR, hg⟩
  obtain ⟨ak, ck, rfl⟩ := own_form ho
  rw [hp6.out] at hR
  have F1 := F.out.call hg hR
  obtain ⟨q, f⟩ := F1.spot 5 _ rfl
  have F := hideIt (F1.store 5 (.slice ak s.keys.length ck) (cells' := #[.int .i64 s.kd, .int .i64 s.key, .int .i64 s.val, .int .i64 s.step, .int .i64 s.pg, .slice ak s.keys.length ck, .slice none 0 0, .slice none 0 0, .slice none 0 0, .string ⟨#[]⟩, .int .i64 0, .bool false, .int .i64 0]) rfl)
  have Okeys := hideIt (owns_mono ho (show w.heap.size + 1 + 1 + 1 ≤ _ from F0.out.sz))
  clear hR hg F1 ho F0
  replace Okeys := hideIt (ownsRow_setCell_below Okeys.out (a := ⟨w.heap.size + 1 + 1, 5, none⟩) (Nat.lt_succ_self _) (.slice ak s.keys.length ck))
  have F0 := F
  have Okeysz := Okeys
  go_wp2_with fail
  refine (rlist_any _ t p6 s.vals _ _ F.out.rd D6.out (by have := HO.out.kl12; have := HO.out.kl; omega) HO.out.vals htl).mono ?_
  rintro e w7 ⟨xv, rfl, ho, hR, hg⟩
  obtain ⟨av, cv, rfl⟩ := own_form ho
  rw [hp7.out] at hR
  have F1 := F.out.call hg hR
  replace Okeys := hideIt (owns_gr Okeys.out hg (by omega))
  have Skeys_vals := hideIt (own_sep Okeysz.out ho (Nat.le_refl _))
  obtain ⟨q, f⟩ := F1.spot 6 _ rfl
  have F := hideIt (F1.store 6 (.slice av s.vals.length cv) (cells' := #[.int .i64 s.kd, .int .i64 s.key, .int .i64 s.val, .int .i64 s.step, .int .i64 s.pg, .slice ak s.keys.length ck, .slice av s.vals.length cv, .slice none 0 0, .slice none 0 0, .string ⟨#[]⟩, .int .i64 0, .bool false, .int .i64 0]) rfl)
  have Ovals := hideIt (owns_mono ho (show w.heap.size + 1 + 1 + 1 ≤ _ from F0.out.sz))
  clear hR hg F1 ho F0 Okeysz
  replace Okeys := hideIt (ownsRow_setCell_below Okeys.out (a := ⟨w.heap.size + 1 + 1, 6, none⟩) (Nat.lt_succ_self _) (.slice av s.vals.length cv))
  replace Ovals := hideIt (ownsRow_setCell_below Ovals.out (a := ⟨w.heap.size + 1 + 1, 6, none⟩) (Nat.lt_succ_self _) (.slice av s.vals.length cv))
  have F0 := F
  have Okeysz := Okeys
  have Ovalsz := Ovals
  go_wp2_with fail
  refine (rlist_any _ t p7 s.bel _ _ F.out.rd D7.out (HO.out.bl64) HO.out.belFr htl).mono ?_
  rintro e w8 ⟨xv, rfl, ho, hR, hg⟩
  obtain ⟨ab, cb, rfl⟩ := own_form ho
  rw [hp8.out] at hR
  have F1 := F.out.call hg hR
  replace Okeys := hideIt (owns_gr Okeys.out hg (by omega))
  replace Ovals := hideIt (owns_gr Ovals.out hg (by omega))
  have Skeys_bel := hideIt (own_sep Okeysz.out ho (Nat.le_refl _))
  have Svals_bel := hideIt (own_sep Ovalsz.out ho (Nat.le_refl _))
  obtain ⟨q, f⟩ := F1.spot 7 _ rfl
  have F := hideIt (F1.store 7 (.slice ab s.bel.length cb) (cells' := #[.int .i64 s.kd, .int .i64 s.key, .int .i64 s.val, .int .i64 s.step, .int .i64 s.pg, .slice ak s.keys.length ck, .slice av s.vals.length cv, .slice ab s.bel.length cb, .slice none 0 0, .string ⟨#[]⟩, .int .i64 0, .bool false, .int .i64 0]) rfl)
  have Obel := hideIt (owns_mono ho (show w.heap.size + 1 + 1 + 1 ≤ _ from F0.out.sz))
  clear hR hg F1 ho F0 Okeysz Ovalsz
  replace Okeys := hideIt (ownsRow_setCell_below Okeys.out (a := ⟨w.heap.size + 1 + 1, 7, none⟩) (Nat.lt_succ_self _) (.slice ab s.bel.length cb))
  replace Ovals := hideIt (ownsRow_setCell_below Ovals.out (a := ⟨w.heap.size + 1 + 1, 7, none⟩) (Nat.lt_succ_self _) (.slice ab s.bel.length cb))
  replace Obel := hideIt (ownsRow_setCell_below Obel.out (a := ⟨w.heap.size + 1 + 1, 7, none⟩) (Nat.lt_succ_self _) (.slice ab s.bel.length cb))
  have F0 := F
  have Okeysz := Okeys
  have Ovalsz := Ovals
  have Obelz := Obel
  go_wp2_with fail
  refine (rlist_any _ t p8 s.pts _ _ F.out.rd D8.out (by have := HO.out.bl64; have := HO.out.bl; omega) HO.out.pts htl).mono ?_
  rintro e w9 ⟨xv, rfl, ho, hR, hg⟩
  obtain ⟨ap, cp, rfl⟩ := own_form ho
  rw [hp9.out] at hR
  have F1 := F.out.call hg hR
  replace Okeys := hideIt (owns_gr Okeys.out hg (by omega))
  replace Ovals := hideIt (owns_gr Ovals.out hg (by omega))
  replace Obel := hideIt (owns_gr Obel.out hg (by omega))
  have Skeys_pts := hideIt (own_sep Okeysz.out ho (Nat.le_refl _))
  have Svals_pts := hideIt (own_sep Ovalsz.out ho (Nat.le_refl _))
  have Sbel_pts := hideIt (own_sep Obelz.out ho (Nat.le_refl _))
  obtain ⟨q, f⟩ := F1.spot 8 _ rfl
  have F := hideIt (F1.store 8 (.slice ap s.pts.length cp) (cells' := #[.int .i64 s.kd, .int .i64 s.key, .int .i64 s.val, .int .i64 s.step, .int .i64 s.pg, .slice ak s.keys.length ck, .slice av s.vals.length cv, .slice ab s.bel.length cb, .slice ap s.pts.length cp, .string ⟨#[]⟩, .int .i64 0, .bool false, .int .i64 0]) rfl)
  have Opts := hideIt (owns_mono ho (show w.heap.size + 1 + 1 + 1 ≤ _ from F0.out.sz))
  clear hR hg F1 ho F0 Okeysz Ovalsz Obelz
  replace Okeys := hideIt (ownsRow_setCell_below Okeys.out (a := ⟨w.heap.size + 1 + 1, 8, none⟩) (Nat.lt_succ_self _) (.slice ap s.pts.length cp))
  replace Ovals := hideIt (ownsRow_setCell_below Ovals.out (a := ⟨w.heap.size + 1 + 1, 8, none⟩) (Nat.lt_succ_self _) (.slice ap s.pts.length cp))
  replace Obel := hideIt (ownsRow_setCell_below Obel.out (a := ⟨w.heap.size + 1 + 1, 8, none⟩) (Nat.lt_succ_self _) (.slice ap s.pts.length cp))
  replace Opts := hideIt (ownsRow_setCell_below Opts.out (a := ⟨w.heap.size + 1 + 1, 8, none⟩) (Nat.lt_succ_self _) (.slice ap s.pts.length cp))
  have F0 := F
  have Okeysz := Okeys
  have Ovalsz := Ovals
  have Obelz := Obel
  have Optsz := Opts
  go_wp2_with fail
  refine (rnum_any _ t p9 n9 _ _ F.out.rd (by have h := D9.out; rw [E9.out] at h; exact h) u9 htl).mono ?_
  rintro e w10 ⟨rfl, hR, hg⟩
  rw [← E9.out] at hR ⊢
  rw [hp10.out] at hR
  have F1 := F.out.call hg hR
  replace Okeys := hideIt (owns_gr Okeys.out hg (by omega))
  replace Ovals := hideIt (owns_gr Ovals.out hg (by omega))
  replace Obel := hideIt (owns_gr Obel.out hg (by omega))
  replace Opts := hideIt (owns_gr Opts.out hg (by omega))
  obtain ⟨q, f⟩ := F1.spot 10 _ rfl
  have F := hideIt (F1.store 10 (.int .i64 s.ver) (cells' := #[.int .i64 s.kd, .int .i64 s.key, .int .i64 s.val, .int .i64 s.step, .int .i64 s.pg, .slice ak s.keys.length ck, .slice av s.vals.length cv, .slice ab s.bel.length cb, .slice ap s.pts.length cp, .string ⟨#[]⟩, .int .i64 s.ver, .bool false, .int .i64 0]) rfl)
  clear hR hg F1 F0 Okeysz Ovalsz Obelz Optsz
  replace Okeys := hideIt (ownsRow_setCell_below Okeys.out (a := ⟨w.heap.size + 1 + 1, 10, none⟩) (Nat.lt_succ_self _) (.int .i64 s.ver))
  replace Ovals := hideIt (ownsRow_setCell_below Ovals.out (a := ⟨w.heap.size + 1 + 1, 10, none⟩) (Nat.lt_succ_self _) (.int .i64 s.ver))
  replace Obel := hideIt (ownsRow_setCell_below Obel.out (a := ⟨w.heap.size + 1 + 1, 10, none⟩) (Nat.lt_succ_self _) (.int .i64 s.ver))
  replace Opts := hideIt (ownsRow_setCell_below Opts.out (a := ⟨w.heap.size + 1 + 1, 10, none⟩) (Nat.lt_succ_self _) (.int .i64 s.ver))
  have F0 := F
  have Okeysz := Okeys
  have Ovalsz := Ovals
  have Obelz := Obel
  have Optsz := Opts
  go_wp2_with fail
  refine (rflag_any _ t p10 s.fnd _ _ F.out.rd D10.out htl).mono ?_
  rintro e w11 ⟨rfl, hR, hg⟩
  rw [hp11.out] at hR
  have F1 := F.out.call hg hR
  replace Okeys := hideIt (owns_gr Okeys.out hg (by omega))
  replace Ovals := hideIt (owns_gr Ovals.out hg (by omega))
  replace Obel := hideIt (owns_gr Obel.out hg (by omega))
  replace Opts := hideIt (owns_gr Opts.out hg (by omega))
  obtain ⟨q, f⟩ := F1.spot 11 _ rfl
  have F := hideIt (F1.store 11 (.bool s.fnd) (cells' := #[.int .i64 s.kd, .int .i64 s.key, .int .i64 s.val, .int .i64 s.step, .int .i64 s.pg, .slice ak s.keys.length ck, .slice av s.vals.length cv, .slice ab s.bel.length cb, .slice ap s.pts.length cp, .string ⟨#[]⟩, .int .i64 s.ver, .bool s.fnd, .int .i64 0]) rfl)
  clear hR hg F1 F0 Okeysz Ovalsz Obelz Optsz
  replace Okeys := hideIt (ownsRow_setCell_below Okeys.out (a := ⟨w.heap.size + 1 + 1, 11, none⟩) (Nat.lt_succ_self _) (.bool s.fnd))
  replace Ovals := hideIt (ownsRow_setCell_below Ovals.out (a := ⟨w.heap.size + 1 + 1, 11, none⟩) (Nat.lt_succ_self _) (.bool s.fnd))
  replace Obel := hideIt (ownsRow_setCell_below Obel.out (a := ⟨w.heap.size + 1 + 1, 11, none⟩) (Nat.lt_succ_self _) (.bool s.fnd))
  replace Opts := hideIt (ownsRow_setCell_below Opts.out (a := ⟨w.heap.size + 1 + 1, 11, none⟩) (Nat.lt_succ_self _) (.bool s.fnd))
  have F0 := F
  have Okeysz := Okeys
  have Ovalsz := Ovals
  have Obelz := Obel
  have Optsz := Opts
  go_wp2_with fail
  refine (rnum_any _ t p11 n11 _ _ F.out.rd (by have h := D11.out; rw [E11.out] at h; exact h) u11 htl).mono ?_
  rintro e w12 ⟨rfl, hR, hg⟩
  rw [← E11.out] at hR ⊢
  rw [hp12.out] at hR
  have F1 := F.out.call hg hR
  replace Okeys := hideIt (owns_gr Okeys.out hg (by omega))
  replace Ovals := hideIt (owns_gr Ovals.out hg (by omega))
  replace Obel := hideIt (owns_gr Obel.out hg (by omega))
  replace Opts := hideIt (owns_gr Opts.out hg (by omega))
  obtain ⟨q, f⟩ := F1.spot 12 _ rfl
  have F := hideIt (F1.store 12 (.int .i64 s.va) (cells' := #[.int .i64 s.kd, .int .i64 s.key, .int .i64 s.val, .int .i64 s.step, .int .i64 s.pg, .slice ak s.keys.length ck, .slice av s.vals.length cv, .slice ab s.bel.length cb, .slice ap s.pts.length cp, .string ⟨#[]⟩, .int .i64 s.ver, .bool s.fnd, .int .i64 s.va]) rfl)
  clear hR hg F1 F0 Okeysz Ovalsz Obelz Optsz
  replace Okeys := hideIt (ownsRow_setCell_below Okeys.out (a := ⟨w.heap.size + 1 + 1, 12, none⟩) (Nat.lt_succ_self _) (.int .i64 s.va))
  replace Ovals := hideIt (ownsRow_setCell_below Ovals.out (a := ⟨w.heap.size + 1 + 1, 12, none⟩) (Nat.lt_succ_self _) (.int .i64 s.va))
  replace Obel := hideIt (ownsRow_setCell_below Obel.out (a := ⟨w.heap.size + 1 + 1, 12, none⟩) (Nat.lt_succ_self _) (.int .i64 s.va))
  replace Opts := hideIt (ownsRow_setCell_below Opts.out (a := ⟨w.heap.size + 1 + 1, 12, none⟩) (Nat.lt_succ_self _) (.int .i64 s.va))
  have F0 := F
  have Okeysz := Okeys
  have Ovalsz := Ovals
  have Obelz := Obel
  have Optsz := Opts
  go_wp2_with fail
  refine (rrest_any _ t p12 s.sw _ F.out.rd D12.out (by have := HO.out.i.swL; omega) htl).mono ?_
  rintro e w13 ⟨rfl, hR, hg⟩
  have F1 := F.out.call hg hR
  replace Okeys := hideIt (owns_gr Okeys.out hg (by omega))
  replace Ovals := hideIt (owns_gr Ovals.out hg (by omega))
  replace Obel := hideIt (owns_gr Obel.out hg (by omega))
  replace Opts := hideIt (owns_gr Opts.out hg (by omega))
  obtain ⟨q, f⟩ := F1.spot 9 _ rfl
  obtain ⟨q0, -⟩ := F1.spot 0 _ rfl
  obtain ⟨q1, -⟩ := F1.spot 1 _ rfl
  obtain ⟨q2, -⟩ := F1.spot 2 _ rfl
  obtain ⟨q3, -⟩ := F1.spot 3 _ rfl
  obtain ⟨q4, -⟩ := F1.spot 4 _ rfl
  obtain ⟨q5, -⟩ := F1.spot 5 _ rfl
  obtain ⟨q6, -⟩ := F1.spot 6 _ rfl
  obtain ⟨q7, -⟩ := F1.spot 7 _ rfl
  obtain ⟨q8, -⟩ := F1.spot 8 _ rfl
  obtain ⟨q10, -⟩ := F1.spot 10 _ rfl
  obtain ⟨q11, -⟩ := F1.spot 11 _ rfl
  obtain ⟨q12, -⟩ := F1.spot 12 _ rfl
  obtain ⟨⟨c0, c1, c2⟩, -⟩ := F1.rd.cells
  have F := hideIt (F1.store 9 (.string s.sw) (cells' := #[.int .i64 s.kd, .int .i64 s.key, .int .i64 s.val, .int .i64 s.step, .int .i64 s.pg, .slice ak s.keys.length ck, .slice av s.vals.length cv, .slice ab s.bel.length cb, .slice ap s.pts.length cp, .string s.sw, .int .i64 s.ver, .bool s.fnd, .int .i64 s.va]) rfl)
  clear hR hg F1 F0 Okeysz Ovalsz Obelz Optsz
  replace Okeys := hideIt (ownsRow_setCell_below Okeys.out (a := ⟨w.heap.size + 1 + 1, 9, none⟩) (Nat.lt_succ_self _) (.string s.sw))
  replace Ovals := hideIt (ownsRow_setCell_below Ovals.out (a := ⟨w.heap.size + 1 + 1, 9, none⟩) (Nat.lt_succ_self _) (.string s.sw))
  replace Obel := hideIt (ownsRow_setCell_below Obel.out (a := ⟨w.heap.size + 1 + 1, 9, none⟩) (Nat.lt_succ_self _) (.string s.sw))
  replace Opts := hideIt (ownsRow_setCell_below Opts.out (a := ⟨w.heap.size + 1 + 1, 9, none⟩) (Nat.lt_succ_self _) (.string s.sw))
  have hpg : decide ((64 : Int) ≤ s.pg) = false := by rw [decide_eq_false_iff_not]; have := HO.out.pg; omega
  have hst : (s.step == 9223372036854775807) = false := by have := HO.out.step.2; simp; omega
  go_wp2_with fail
  refine (rightOp_any s.kd s.key s.val _).mono ?_
  rintro e w20 ⟨rfl, hb⟩
  rw [HO.out.op]
  have G := hideIt (F.out.below hb)
  replace Okeys := hideIt (owns_below Okeys.out hb)
  replace Ovals := hideIt (owns_below Ovals.out hb)
  replace Obel := hideIt (owns_below Obel.out hb)
  replace Opts := hideIt (owns_below Opts.out hb)
  clear hb F q f c0 c1 c2 q0 q1 q2 q3 q4 q5 q6 q7 q8 q10 q11 q12
  obtain ⟨q0, -⟩ := G.out.spot 0 _ rfl
  obtain ⟨q1, -⟩ := G.out.spot 1 _ rfl
  obtain ⟨q2, -⟩ := G.out.spot 2 _ rfl
  obtain ⟨q3, -⟩ := G.out.spot 3 _ rfl
  obtain ⟨q4, -⟩ := G.out.spot 4 _ rfl
  obtain ⟨q5, -⟩ := G.out.spot 5 _ rfl
  obtain ⟨q6, -⟩ := G.out.spot 6 _ rfl
  obtain ⟨q7, -⟩ := G.out.spot 7 _ rfl
  obtain ⟨q8, -⟩ := G.out.spot 8 _ rfl
  obtain ⟨q9, -⟩ := G.out.spot 9 _ rfl
  obtain ⟨q10, -⟩ := G.out.spot 10 _ rfl
  obtain ⟨q11, -⟩ := G.out.spot 11 _ rfl
  obtain ⟨q12, -⟩ := G.out.spot 12 _ rfl
  go_wp2_with fail
  refine (rightSeen_yes s _ _ _ _ _ ⟨owns_rd Okeys.out, owns_rd Ovals.out, owns_rd Obel.out, owns_rd Opts.out⟩ HO.out).mono ?_
  rintro e w21 ⟨rfl, hb⟩
  have F := hideIt (G.out.below hb)
  replace Okeys := hideIt (owns_below Okeys.out hb)
  replace Ovals := hideIt (owns_below Ovals.out hb)
  replace Obel := hideIt (owns_below Obel.out hb)
  replace Opts := hideIt (owns_below Opts.out hb)
  clear hb G q0 q1 q2 q3 q4 q5 q6 q7 q8 q9 q10 q11 q12
  obtain ⟨q0, -⟩ := F.out.spot 0 _ rfl
  obtain ⟨q1, -⟩ := F.out.spot 1 _ rfl
  obtain ⟨q2, -⟩ := F.out.spot 2 _ rfl
  obtain ⟨q3, -⟩ := F.out.spot 3 _ rfl
  obtain ⟨q4, -⟩ := F.out.spot 4 _ rfl
  obtain ⟨q5, -⟩ := F.out.spot 5 _ rfl
  obtain ⟨q6, -⟩ := F.out.spot 6 _ rfl
  obtain ⟨q7, -⟩ := F.out.spot 7 _ rfl
  obtain ⟨q8, -⟩ := F.out.spot 8 _ rfl
  obtain ⟨q9, -⟩ := F.out.spot 9 _ rfl
  obtain ⟨q10, -⟩ := F.out.spot 10 _ rfl
  obtain ⟨q11, -⟩ := F.out.spot 11 _ rfl
  obtain ⟨q12, -⟩ := F.out.spot 12 _ rfl
  go_wp2_with fail
  refine (rightSwap_yes s _ _ _ _ _ ⟨owns_rd Okeys.out, owns_rd Ovals.out, owns_rd Obel.out, owns_rd Opts.out⟩ HO.out).mono ?_
  rintro e w22 ⟨rfl, hb⟩
  have G := hideIt (F.out.below hb)
  replace Okeys := hideIt (owns_below Okeys.out hb)
  replace Ovals := hideIt (owns_below Ovals.out hb)
  replace Obel := hideIt (owns_below Obel.out hb)
  replace Opts := hideIt (owns_below Opts.out hb)
  clear hb F q0 q1 q2 q3 q4 q5 q6 q7 q8 q9 q10 q11 q12
  obtain ⟨q0, -⟩ := G.out.spot 0 _ rfl
  obtain ⟨q1, -⟩ := G.out.spot 1 _ rfl
  obtain ⟨q2, -⟩ := G.out.spot 2 _ rfl
  obtain ⟨q3, -⟩ := G.out.spot 3 _ rfl
  obtain ⟨q4, -⟩ := G.out.spot 4 _ rfl
  obtain ⟨q5, -⟩ := G.out.spot 5 _ rfl
  obtain ⟨q6, -⟩ := G.out.spot 6 _ rfl
  obtain ⟨q7, -⟩ := G.out.spot 7 _ rfl
  obtain ⟨q8, -⟩ := G.out.spot 8 _ rfl
  obtain ⟨q9, -⟩ := G.out.spot 9 _ rfl
  obtain ⟨q10, -⟩ := G.out.spot 10 _ rfl
  obtain ⟨q11, -⟩ := G.out.spot 11 _ rfl
  obtain ⟨q12, -⟩ := G.out.spot 12 _ rfl
  have r0 := cellOf G.out.fr 0 _ rfl
  have r1 := cellOf G.out.fr 1 _ rfl
  have r2 := cellOf G.out.fr 2 _ rfl
  have r3 := cellOf G.out.fr 3 _ rfl
  have r4 := cellOf G.out.fr 4 _ rfl
  have r5 := cellOf G.out.fr 5 _ rfl
  have r6 := cellOf G.out.fr 6 _ rfl
  have r7 := cellOf G.out.fr 7 _ rfl
  have r8 := cellOf G.out.fr 8 _ rfl
  have r9 := cellOf G.out.fr 9 _ rfl
  have r10 := cellOf G.out.fr 10 _ rfl
  have r11 := cellOf G.out.fr 11 _ rfl
  have r12 := cellOf G.out.fr 12 _ rfl
  have f0 := Go.Joins.unfrozen_of_block G.out.fr 0
  have f1 := Go.Joins.unfrozen_of_block G.out.fr 1
  have f2 := Go.Joins.unfrozen_of_block G.out.fr 2
  have f3 := Go.Joins.unfrozen_of_block G.out.fr 3
  have f4 := Go.Joins.unfrozen_of_block G.out.fr 4
  have f5 := Go.Joins.unfrozen_of_block G.out.fr 5
  have f6 := Go.Joins.unfrozen_of_block G.out.fr 6
  have f7 := Go.Joins.unfrozen_of_block G.out.fr 7
  have f8 := Go.Joins.unfrozen_of_block G.out.fr 8
  have f9 := Go.Joins.unfrozen_of_block G.out.fr 9
  have f10 := Go.Joins.unfrozen_of_block G.out.fr 10
  have f11 := Go.Joins.unfrozen_of_block G.out.fr 11
  have f12 := Go.Joins.unfrozen_of_block G.out.fr 12
  have B := hideIt G.out.bl
  have W4 : Hid (Own4 w22 (w.heap.size + 1 + 1 + 1) s (.slice ak s.keys.length ck) (.slice av s.vals.length cv) (.slice ab s.bel.length cb) (.slice ap s.pts.length cp)) := ⟨Okeys.out, Ovals.out, Obel.out, Opts.out, Skeys_vals.out, Skeys_bel.out, Skeys_pts.out, Svals_bel.out, Svals_pts.out, Sbel_pts.out⟩
  clear G Okeys Ovals Obel Opts Skeys_vals Skeys_bel Skeys_pts Svals_bel Svals_pts Sbel_pts
  go_wp2
  refine bodyPost_ret (v := .tuple #[.agg #[.int .i64 s.kd, .int .i64 s.key, .int .i64 s.val, .int .i64 s.step, .int .i64 s.pg, .slice ak s.keys.length ck, .slice av s.vals.length cv, .slice ab s.bel.length cb, .slice ap s.pts.length cp, .string s.sw, .int .i64 s.ver, .bool s.fnd, .int .i64 s.va], .bool true]) (by simp [results, Tryd.results59, go_sem, *]) rfl ⟨⟨_, _, _, _, ?_, rfl⟩, ?_⟩
  · refine Own4.mono (B := w.heap.size + 1 + 1 + 1) ?_ (by omega)
    repeat (refine Own4.setCell ?_ (by simp; omega) _)
    exact W4.out
  · repeat (refine Below.setCell ?_ (by simp) _)
    exact B.out
end Go.Proofs.YtjpgldeeopmbgaaDoor.Sap
