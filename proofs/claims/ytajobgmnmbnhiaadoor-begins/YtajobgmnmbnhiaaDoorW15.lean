/- WHAT IS PROVED HERE: the whole walk of saplinglaw.Packs: it answers true, and nothing that was there has turned. Conditions: the table of powers of ten is laid; strings and slices no longer than the form's own reach. -/
import Derived.Test.YtajobgmnmbnhiaaDoorW12
import Derived.Test.YtajobgmnmbnhiaaDoorW14
namespace Go.Proofs.YtajobgmnmbnhiaaDoor.Sap
open Go.RowKit

/-- A slice's value: nil, or one with an address. -/
def Sl (v : Value) : Prop := v = .slice none 0 0 ∨ ∃ a n cap, v = .slice (some a) n cap
/-- What roomy has made of the slice v: nil of nil; else a row with the mark behind it. -/
def RoomOk (w : World) (r v : Value) (xs : List Int) : Prop :=
  (v = .slice none 0 0 ∧ r = .slice none 0 0) ∨ (∃ a n cap g, v = .slice (some a) n cap ∧ xs.length = n ∧ r = .slice (some ⟨g, 0, none⟩) n (n + 1) ∧ w.heap[g]? = some (.cells (roomRow xs).toArray 3 (0, 0)))
theorem RoomOk.below {w w' : World} {r v : Value} {xs : List Int} (h : RoomOk w r v xs) (hb : Below w.heap.size w w') : RoomOk w' r v xs := by
  rcases h with h | ⟨a, n, cap, g, h1, h2, h3, h4⟩
  · exact Or.inl h
  · exact Or.inr ⟨a, n, cap, g, h1, h2, h3, block_below h4 hb⟩
theorem RoomOk.rd {w : World} {r v : Value} {xs : List Int} (h : RoomOk w r v xs) (hr : Rd w v xs) : Rd w r xs := by
  rcases h with ⟨rfl, rfl⟩ | ⟨a, n, cap, g, rfl, hx, rfl, h4⟩
  · exact hr
  · refine ⟨some ⟨g, 0, none⟩, n + 1, by rw [hx], fun hp => ⟨g, 0, rfl, fun j hj => ?_⟩⟩
    rw [Nat.zero_add, Go.Joins.cell_of_block h4, room_at xs j hj]

theorem roomy_any (v : Value) (xs : List Int) (w : World) (hs : Sl v) (h : Rd w v xs) (hn : xs.length * 8 ≤ 140737488351232) :
    Calls Tryd.prog 11 #[v] w fun e w' => ∃ r, e = .returned r ∧ RoomOk w' r v xs ∧ Below w.heap.size w w' := by
  rcases hs with rfl | ⟨a, n, cap, rfl⟩
  · refine (roomy_nil w).mono ?_
    rintro e w' ⟨rfl, rfl⟩
    exact ⟨_, rfl, Or.inl ⟨rfl, rfl⟩, Below.refl _ _⟩
  · have hx : xs.length = n := by obtain ⟨_, _, hv⟩ := h.len; simp at hv; omega
    refine (roomy_some a n cap xs w h hx (by omega)).mono ?_
    rintro e w' ⟨rfl, h1, h2⟩
    exact ⟨_, rfl, Or.inr ⟨a, n, cap, _, rfl, hx, rfl, h1⟩, h2⟩
theorem whole_any (r v : Value) (xs : List Int) (w : World) (hr : RoomOk w r v xs) (h : Rd w v xs) (hn : xs.length * 8 ≤ 140737488351232) :
    Calls Tryd.prog 14 #[r, v] w fun e w' => e = .returned (.bool true) ∧ Below w.heap.size w w' := by
  rcases hr with ⟨rfl, rfl⟩ | ⟨a, n, cap, g, rfl, hx, rfl, h4⟩
  · refine (whole_nil _ w).mono ?_
    rintro e w' ⟨rfl, rfl⟩
    exact ⟨rfl, Below.refl _ _⟩
  · exact whole_some g a n cap xs w h4 h hx (by omega)

theorem Pk.uniq {n : Nd} {b c : ByteArray} {x y : Int} (h : Pk n b x) (k : Pk n c y) : b = c ∧ x = y := by
  unfold Pk at h k
  split at h
  · rename_i hr; rw [if_pos hr] at k; exact ⟨ba_ext (h.1.trans k.1.symm), h.2.trans k.2.symm⟩
  · rename_i hr; rw [if_neg hr] at k; exact ⟨ba_ext (h.1.trans k.1.symm), h.2.trans k.2.symm⟩

/-- Node and error of an Unpack. -/
def UV (s : List UInt8) (n : Nd) (er : Int) : Prop := (er = 0 ∧ Unp s n) ∨ (er = 2 ∧ n = ⟨0, 0, 0, [], []⟩ ∧ ∀ m, ¬ Unp s m)
theorem UV.uniq {s : List UInt8} {n m : Nd} {x y : Int} (h : UV s n x) (k : UV s m y) : n = m ∧ x = y := by
  rcases h with ⟨h1, h2⟩ | ⟨h1, h2, h3⟩ <;> rcases k with ⟨k1, k2⟩ | ⟨k1, k2, k3⟩
  · exact ⟨h2.uniq k2, by omega⟩
  · exact absurd h2 (k3 n)
  · exact absurd k2 (h3 m)
  · exact ⟨by rw [h2, k2], by omega⟩
theorem UV.len {s : List UInt8} {n : Nd} {x : Int} (h : UV s n x) : n.ks.length ≤ 6 ∧ n.vs.length ≤ 6 := by
  rcases h with ⟨-, h⟩ | ⟨-, rfl, -⟩
  · obtain ⟨-, -, -, h4, h5, -⟩ := right_bd n h.1; omega
  · exact ⟨by simp, by simp⟩
theorem UnpR.view {s : List UInt8} {w : World} {B : Nat} {e : Ending} (h : UnpR s w B e) :
    ∃ n kv vv er, UV s n er ∧ Own w B kv vv n.ks n.vs ∧ e = .returned (.tuple #[.agg #[.int .i64 n.lv, .int .i64 n.lk, .int .i64 n.hi, kv, vv], .int .i64 er]) := by
  rcases h with ⟨n, kv, vv, h1, h2, h3⟩ | ⟨h1, h2⟩
  · exact ⟨n, kv, vv, 0, Or.inl ⟨rfl, h1⟩, h2, h3⟩
  · exact ⟨⟨0, 0, 0, [], []⟩, .slice none 0 0, .slice none 0 0, 2, Or.inr ⟨rfl, rfl, h1⟩, ⟨World.ownsRow_nil _ _ _ _, World.ownsRow_nil _ _ _ _, fun g hg => by simp [Value.ownBlock] at hg⟩, h2⟩

theorem Rd.grown {w w' : World} {v : Value} {xs : List Int} {row : Option Nat} (h : Rd w v xs) (hg : w.grownBy w' row) (hne : ∀ g, v.ownBlock = some g → row ≠ some g) : Rd w' v xs := by
  obtain ⟨ao, cap, rfl, hr⟩ := h
  refine ⟨ao, cap, rfl, fun hp => ?_⟩
  obtain ⟨b, off, rfl, hc⟩ := hr hp
  exact ⟨b, off, rfl, fun j hj => hg.cell (hc j hj) (fun e => hne b rfl e.symm)⟩

set_option maxRecDepth 100000 in
set_option maxHeartbeats 3200000 in
theorem packs_walk (n : Nd) (kv vv : Value) (s other : ByteArray) (w : World) (htab : Tab w) (hk : Rd w kv n.ks) (hv : Rd w vv n.vs) (sk : Sl kv) (sv : Sl vv)
    (hkl : n.ks.length * 8 ≤ 140737488351232) (hvl : n.vs.length * 8 ≤ 140737488351232) (hs : s.size ≤ 140737488351232) (ho : other.size ≤ 140737488351232) :
    Calls Tryd.prog 3 #[.agg #[.int .i64 n.lv, .int .i64 n.lk, .int .i64 n.hi, kv, vv], .string s, .string other] w fun e w' => e = .returned (.bool true) ∧ Below w.heap.size w w' := by
  have HT := hideIt htab
  have HK := hideIt hk
  have HV := hideIt hv
  have SK := hideIt sk
  have SV := hideIt sv
  have hk0 : n.ks.length ≤ 17592186044416 := by omega
  have hv0 : n.vs.length ≤ 17592186044416 := by omega
  obtain ⟨ak, ck, rfl⟩ := hk.len
  obtain ⟨av, cv, rfl⟩ := hv.len
  clear htab hk hv sk sv
  go_enter Tryd.func3, Tryd.ntmps3
  go_wp2_with fail
  refine (roomy_any _ n.ks _ SK.out (HK.out.alloc _) hkl).mono ?_
  rintro e w1 ⟨k, rfl, rk, hb⟩
  have B1 := (Box.new w (.int .i64 n.lv) (.int .i64 n.lk) (.int .i64 n.hi) (.slice ak n.ks.length ck) (.slice av n.vs.length cv) 24).below hb
  have hb1 := step ((Below.refl _ _).alloc (Nat.le_refl _) _) hb
  have RK1 := hideIt rk
  clear hb rk
  obtain ⟨q0, q1, q2, q3, q4⟩ := B1
  go_wp2_with fail
  refine (roomy_any _ n.vs _ SV.out (HV.out.below hb1) hvl).mono ?_
  rintro e w2 ⟨v, rfl, rv, hb⟩
  have B2 := Box.below ⟨q0, q1, q2, q3, q4⟩ hb
  have hb2 := step hb1 hb
  have RK2 := hideIt (RK1.out.below hb)
  have RV2 := hideIt rv
  clear hb rv hb1 RK1 q0 q1 q2 q3 q4
  obtain ⟨q0, q1, q2, q3, q4⟩ := B2
  have hkr := RK2.out.rd (HK.out.below hb2)
  have hvr := RV2.out.rd (HV.out.below hb2)
  have CP := hideIt (pack_any n k v w2 (HT.out.below hb2) hkr hvr hk0 hv0)
  obtain ⟨ak2, ck2, rfl⟩ := hkr.len
  obtain ⟨av2, cv2, rfl⟩ := hvr.len
  clear hkr hvr
  go_wp2_with fail
  refine CP.out.mono ?_
  rintro e w3 ⟨b, er, rfl, hpk, -, hb⟩
  have B3 := Box.below ⟨q0, q1, q2, q3, q4⟩ hb
  have hb3 := step hb2 hb
  have RK3 := hideIt (RK2.out.below hb)
  have RV3 := hideIt (RV2.out.below hb)
  have PK := hideIt hpk
  clear hb hpk hb2 RK2 RV2 q0 q1 q2 q3 q4 CP
  obtain ⟨q0, q1, q2, q3, q4⟩ := B3
  have CP := hideIt (refPack_any n (.slice ak n.ks.length ck) (.slice av n.vs.length cv) w3 (HK.out.below hb3) (HV.out.below hb3) hk0)
  go_wp2_with fail
  refine CP.out.mono ?_
  rintro e w4 ⟨b', er', rfl, hpk, hb⟩
  obtain ⟨rfl, rfl⟩ := PK.out.uniq hpk
  have B4 := Box.below ⟨q0, q1, q2, q3, q4⟩ hb
  have hb4 := step hb3 hb
  have RK4 := hideIt (RK3.out.below hb)
  have RV4 := hideIt (RV3.out.below hb)
  clear hb hpk hb3 RK3 RV3 q0 q1 q2 q3 q4 CP PK
  obtain ⟨q0, q1, q2, q3, q4⟩ := B4
  have CW := hideIt (whole_any _ _ n.ks w4 RK4.out (HK.out.below hb4) hkl)
  go_wp2_with fail
  refine CW.out.mono ?_
  rintro e w5 ⟨rfl, hb⟩
  have B5 := Box.below ⟨q0, q1, q2, q3, q4⟩ hb
  have hb5 := step hb4 hb
  have RV5 := hideIt (RV4.out.below hb)
  clear hb hb4 RK4 RV4 q0 q1 q2 q3 q4 CW
  obtain ⟨q0, q1, q2, q3, q4⟩ := B5
  have CW := hideIt (whole_any _ _ n.vs w5 RV5.out (HV.out.below hb5) hvl)
  go_wp2_with fail
  refine CW.out.mono ?_
  rintro e w6 ⟨rfl, hb⟩
  have hb6 := step hb5 hb
  clear hb hb5 RV5 q0 q1 q2 q3 q4 CW
  go_wp2_with fail
  refine (unpack_any s w6 hs).mono ?_
  rintro e w7 ⟨hu, hb⟩
  obtain ⟨c, kc, vc, ec, hUc, hOc, rfl⟩ := hu.view
  have UC := hideIt hUc
  have OC := hideIt hOc
  have hb7 := step hb6 hb
  have hs67 := hb.size
  obtain ⟨akc, ckc, rfl⟩ := own_form hOc.1
  obtain ⟨avc, cvc, rfl⟩ := own_form hOc.2.1
  clear hb hu hUc hOc
  go_wp2_with fail
  refine (refUnpack_any s _ hs).mono ?_
  rintro e w8 ⟨hu, hb⟩
  obtain ⟨d, kd, vd, ed, hUd, hOd, rfl⟩ := hu.view
  obtain ⟨rfl, rfl⟩ := UC.out.uniq hUd
  have c8 := block_below (heap_alloc_new w7 (.cells #[.int .i64 c.lv, .int .i64 c.lk, .int .i64 c.hi, .slice akc c.ks.length ckc, .slice avc c.vs.length cvc] 24)) hb
  have OC8 := hideIt ((OC.out.below ((Below.refl _ _).alloc (Nat.le_refl _) (.cells #[.int .i64 c.lv, .int .i64 c.lk, .int .i64 c.hi, .slice akc c.ks.length ckc, .slice avc c.vs.length cvc] 24))).below hb)
  have OD8 := hideIt hOd
  have hb8 := step (hb7.alloc hb7.size _) hb
  have hs78 := hb.size
  simp at hs78
  have HC8 := hideIt c8
  obtain ⟨akd, ckd, rfl⟩ := own_form hOd.1
  obtain ⟨avd, cvd, rfl⟩ := own_form hOd.2.1
  obtain ⟨⟨q0, q1, q2, q3, q4⟩, -⟩ := node_cells1 c8
  clear hb hu hUd hOd c8 hb7
  go_wp2_with fail
  refine (sameNode_yes c.lv c.lk c.hi c.ks c.vs _ _ _ _ _ (OC8.out.rdK.alloc _) (OC8.out.rdV.alloc _) (OD8.out.rdK.alloc _) (OD8.out.rdV.alloc _) (by have := UC.out.len; omega) (by have := UC.out.len; omega)).mono ?_
  rintro e w9 ⟨rfl, hb⟩
  have HC9 := hideIt (block_below (block_alloc HC8.out _) hb)
  have OC9 := hideIt ((OC8.out.below ((Below.refl _ _).alloc (Nat.le_refl _) _)).below hb)
  have hb9 := step (hb8.alloc hb8.size _) hb
  have hs89 := hb.size
  simp at hs89
  have l9 := UC.out.len
  obtain ⟨l9k, l9v⟩ := l9
  clear hb hb8 HC8 OC8 OD8 q0 q1 q2 q3 q4
  obtain ⟨⟨q0, q1, q2, q3, q4⟩, -⟩ := node_cells HC9.out
  go_wp2_with fail
  refine (written_any _ (-77) c.ks w6.heap.size w9 OC9.out.1 (by omega)).mono ?_
  rintro e w10 ⟨vi, rfl, rdk10, rdi10, hg10, hvi⟩
  have nC : Value.ownBlock (.slice akc c.ks.length ckc) ≠ some w7.heap.size := own_alloc_ne OC.out.1 (Nat.le_refl _)
  have nV : Value.ownBlock (.slice avc c.vs.length cvc) ≠ some w7.heap.size := own_alloc_ne OC.out.2.1 (Nat.le_refl _)
  have HC10 := hideIt ((hg10.block w7.heap.size (by omega) (fun e => nC e.symm)).trans HC9.out)
  have ov10 := OC9.out.2.1.kept hg10 (by
    cases hvv : Value.ownBlock (.slice avc c.vs.length cvc) with
    | none => exact Or.inl rfl
    | some g => exact Or.inr fun e => OC9.out.2.2 g e.symm hvv)
  have hs910 := hg10.size
  have OV10 := hideIt ov10
  have HG10 := hideIt hg10
  have HVI := hideIt hvi
  have RDK10 := hideIt rdk10
  have RDI10 := hideIt rdi10
  have NC := hideIt nC
  have NV := hideIt nV
  clear hg10 hvi rdk10 rdi10 ov10 nC nV q0 q1 q2 q3 q4
  obtain ⟨⟨q0, q1, q2, q3, q4⟩, -⟩ := node_cells HC10.out
  go_wp2_with fail
  refine (written_any _ (-78) c.vs w6.heap.size w10 OV10.out (by omega)).mono ?_
  rintro e w11 ⟨vj, rfl, rdv11, rdj11, hg11, hvj⟩
  have RDV11 := hideIt rdv11
  have RDJ11 := hideIt rdj11
  have RDK11 := hideIt (RDK10.out.grown hg11 (fun g h1 h2 => OC9.out.2.2 g h1 h2))
  have RDI11 := hideIt (RDI10.out.grown hg11 (fun g h1 h2 => by
    rcases (HVI.out g h1).1 with h3 | h3
    · exact OC9.out.2.2 g h3 h2
    · have := (OC9.out.2.1.lt g h2).2; omega))
  have HC11 := hideIt ((hg11.block w7.heap.size (by omega) (fun e => NV.out e.symm)).trans HC10.out)
  have hb11 : Below w.heap.size w w11 := (hb9.grown HG10.out hb9.size (fun g h1 => by have := (OC9.out.1.lt g h1).1; have := hb6.size; omega)).grown hg11 (by have := hb9.size; omega) (fun g h1 => by have := (OC9.out.2.1.lt g h1).1; have := hb6.size; omega)
  have hs1011 := hg11.size
  clear rdv11 rdj11 hg11 hvj RDK10 RDI10 HVI HG10 OV10 OC9 HC9 HC10 NC NV hb9 hb6 q0 q1 q2 q3 q4 OC
  go_wp2_with fail
  refine (unpack_any other w11 ho).mono ?_
  rintro e w12 ⟨hu, hb⟩
  obtain ⟨p, kp, vp, ep, hUp, hOp, rfl⟩ := hu.view
  have UP := hideIt hUp
  have OP := hideIt hOp
  have hb12 := step hb11 hb
  have RDK12 := hideIt (RDK11.out.below hb)
  have RDI12 := hideIt (RDI11.out.below hb)
  have RDV12 := hideIt (RDV11.out.below hb)
  have RDJ12 := hideIt (RDJ11.out.below hb)
  have HC12 := hideIt (block_below HC11.out hb)
  obtain ⟨akp, ckp, rfl⟩ := own_form hOp.1
  obtain ⟨avp, cvp, rfl⟩ := own_form hOp.2.1
  clear hb hu hUp hOp hb11 RDK11 RDI11 RDV11 RDJ11 HC11
  go_wp2_with fail
  refine (refUnpack_any other _ ho).mono ?_
  rintro e w13 ⟨hu, hb⟩
  obtain ⟨r, kr, vr, err, hUr, hOr, rfl⟩ := hu.view
  obtain ⟨rfl, rfl⟩ := UP.out.uniq hUr
  have hal := (Below.refl w12.heap.size w12).alloc (Nat.le_refl _) (.cells #[.int .i64 p.lv, .int .i64 p.lk, .int .i64 p.hi, .slice akp p.ks.length ckp, .slice avp p.vs.length cvp] 24)
  have p13 := block_below (heap_alloc_new w12 (.cells #[.int .i64 p.lv, .int .i64 p.lk, .int .i64 p.hi, .slice akp p.ks.length ckp, .slice avp p.vs.length cvp] 24)) hb
  have OP13 := hideIt ((OP.out.below hal).below hb)
  have OR13 := hideIt hOr
  have hb13 := step (hb12.alloc hb12.size _) hb
  have RDK13 := hideIt ((RDK12.out.below hal).below hb)
  have RDI13 := hideIt ((RDI12.out.below hal).below hb)
  have RDV13 := hideIt ((RDV12.out.below hal).below hb)
  have RDJ13 := hideIt ((RDJ12.out.below hal).below hb)
  have HC13 := hideIt (block_below (block_below HC12.out hal) hb)
  obtain ⟨akr, ckr, rfl⟩ := own_form hOr.1
  obtain ⟨avr, cvr, rfl⟩ := own_form hOr.2.1
  obtain ⟨⟨q0, q1, q2, q3, q4⟩, -⟩ := node_cells1 p13
  clear hb hu hUr hOr p13 hb12 hal RDK12 RDI12 RDV12 RDJ12 HC12
  go_wp2_with fail
  refine (sameNode_yes p.lv p.lk p.hi p.ks p.vs _ _ _ _ _ (OP13.out.rdK.alloc _) (OP13.out.rdV.alloc _) (OR13.out.rdK.alloc _) (OR13.out.rdV.alloc _) (by have := UP.out.len; omega) (by have := UP.out.len; omega)).mono ?_
  rintro e w14 ⟨rfl, hb⟩
  have hal := (Below.refl w13.heap.size w13).alloc (Nat.le_refl _) (.cells #[.int .i64 p.lv, .int .i64 p.lk, .int .i64 p.hi, .slice akr p.ks.length ckr, .slice avr p.vs.length cvr] 24)
  have hb14 := step (hb13.alloc hb13.size _) hb
  have M1 := hideIt (marked_yes _ _ _ w14 ((RDK13.out.below hal).below hb) (by omega))
  have M2 := hideIt (marked_yes _ _ _ w14 ((RDI13.out.below hal).below hb) (by omega))
  have M3 := hideIt (marked_yes _ _ _ w14 ((RDV13.out.below hal).below hb) (by omega))
  have M4 := hideIt (marked_yes _ _ _ w14 ((RDJ13.out.below hal).below hb) (by omega))
  have c14 := block_below (block_below HC13.out hal) hb
  clear hb hal q0 q1 q2 q3 q4 RDK13 RDI13 RDV13 RDJ13 HC13 OP13 OR13 hb13
  obtain ⟨⟨q0, q1, q2, q3, q4⟩, -⟩ := node_cells c14
  clear c14
  go_wp2_with fail
  refine M1.out.mono ?_
  rintro e w15 ⟨rfl, rfl⟩
  go_wp2_with fail
  refine M2.out.mono ?_
  rintro e w15 ⟨rfl, rfl⟩
  go_wp2_with fail
  refine M3.out.mono ?_
  rintro e w15 ⟨rfl, rfl⟩
  go_wp2_with fail
  refine M4.out.mono ?_
  rintro e w15 ⟨rfl, rfl⟩
  go_wp2
  go_ret
  exact ⟨rfl, hb14⟩
end Go.Proofs.YtajobgmnmbnhiaaDoor.Sap
