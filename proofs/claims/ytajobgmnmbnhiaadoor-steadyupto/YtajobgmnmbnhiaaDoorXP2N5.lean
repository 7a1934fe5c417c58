/- WHAT IS PROVED HERE: saplingkeep's pieces answers true of a Scan that has ended as it should, each piece held against the map of its time. Conditions: all operations have ended; what is asked of each piece is named at the theorem. -/
import Derived.Test.YtajobgmnmbnhiaaDoorXB1T9
import Derived.Test.YtajobgmnmbnhiaaDoorXN3K3
import Derived.Test.YtajobgmnmbnhiaaDoorXK4K6
namespace Go.Proofs.YtajobgmnmbnhiaaDoor.Sap
open Go.RowKit

theorem M.cellMem {w0 w : World} {B b : Nat} {l : List As} {c : Array Value} {t : TypeId} (h : M w0 B w l) (hm : As.blk b c t ∈ l) (j : Nat) (v : Value) (hv : c[j]? = some v) : w.cell? ⟨b, j, none⟩ = some v := by
  rw [Go.Joins.cell_of_block (h.holds _ hm).2]; exact hv

/-- The world with all its operations, what took effect (if it is known yet), and an answer that is looked at. -/
def PS (x : Wd) (ga : Nat) (ans : Array Value) (fr : List As) (w0 : World) (B : Nat) (W : World) : Prop :=
  ∃ ov' o', OrdI { x with ov := ov' } o' ∧ M w0 B W (({ x with ov := ov' } : Wd).as ++ (.row 111 4 ov' o'.length (dnc o') :: .blk ga ans 76 :: fr))
theorem PS.below {x : Wd} {ga : Nat} {ans : Array Value} {fr : List As} {w0 : World} {B : Nat} {W W' : World} (h : PS x ga ans fr w0 B W) (hb : Below W.heap.size W W') : PS x ga ans fr w0 B W' := by
  obtain ⟨ov', o', h1, h2⟩ := h
  exact ⟨ov', o', h1, h2.below hb⟩
/-- A map in memory. -/
def TabR (gt : Nat) (K V : List Int) (W : World) : Prop := ∃ tk tv, W.cell? ⟨gt, 0, none⟩ = some tk ∧ W.cell? ⟨gt, 1, none⟩ = some tv ∧ Rd W tk K ∧ Rd W tv V
theorem TabR.below {gt : Nat} {K V : List Int} {W W' : World} (h : TabR gt K V W) (hb : Below W.heap.size W W') : TabR gt K V W' := by
  obtain ⟨tk, tv, h1, h2, h3, h4⟩ := h
  exact ⟨tk, tv, cell_below hb _ _ h1, cell_below hb _ _ h2, h3.below hb, h4.below hb⟩

theorem cutc_at {l : List (Int × Int)} : ∀ {i : Nat} {c : Int × Int}, l[i]? = some c → (cutc l)[i * 2]? = some (.int .i64 c.1) ∧ (cutc l)[i * 2 + 1]? = some (.int .i64 c.2) := by
  induction l with
  | nil => intro i d h; simp at h
  | cons a l ih =>
    intro i d h
    have e : cutc (a :: l) = [.int .i64 a.1, .int .i64 a.2] ++ cutc l := rfl
    rw [e]
    cases i with
    | zero => simp at h; subst h; exact ⟨rfl, rfl⟩
    | succ i =>
      obtain ⟨h1, h2⟩ := ih (i := i) (c := d) (by simpa using h)
      rw [show (i + 1) * 2 = 2 + i * 2 by omega]
      refine ⟨?_, ?_⟩
      · rw [List.getElem?_append_right (by simp)]; simpa using h1
      · rw [List.getElem?_append_right (by simp; omega)]; simpa [Nat.add_assoc] using h2

/-- What is read of an operation, in such a world. -/
theorem PS.facts {x : Wd} {ga i : Nat} {ans : Array Value} {fr : List As} {w0 : World} {B : Nat} {W : World} {d : Dd} (h : PS x ga ans fr w0 B W) (hd : x.ds[i]? = some d) :
    (W.cell? ⟨d.gd, 1, none⟩ = some (.int .i64 d.key) ∧ W.cell? ⟨d.gd, 2, none⟩ = some (.int .i64 d.v) ∧ W.cell? ⟨d.gd, 4, none⟩ = some d.tm) ∧ Rd W d.kv d.ks ∧ Rd W d.vv d.vs ∧ Rd W d.tm d.ts ∧ As.holds W B (.row 142 2 d.cv d.cs.length (cutc d.cs)) := by
  obtain ⟨ov', o', -, h2⟩ := h
  have D := M.deed (pre := []) (x := { x with ov := ov' }) h2 hd
  refine ⟨⟨D.cell (i := 0) rfl 1 _ rfl, D.cell (i := 0) rfl 2 _ rfl, D.cell (i := 0) rfl 4 _ rfl⟩, owns_rd (D.get (i := 9) rfl).own, owns_rd (D.get (i := 10) rfl).own, owns_rd (D.get (i := 2) rfl).own, D.get (i := 11) rfl⟩
theorem PS.ans {x : Wd} {ga : Nat} {ans : Array Value} {fr : List As} {w0 : World} {B : Nat} {W : World} (h : PS x ga ans fr w0 B W) (j : Nat) (v : Value) (hv : ans[j]? = some v) : W.cell? ⟨ga, j, none⟩ = some v := by
  obtain ⟨ov', o', -, h2⟩ := h
  exact h2.cellMem (b := ga) (c := ans) (t := 76) (by simp) j v hv

theorem PS.at {x : Wd} {ga : Nat} {ans : Array Value} {fr : List As} {w0 : World} {B : Nat} {W : World} (h : PS x ga ans fr w0 B W) (time : Int) (hov : ∀ d ∈ x.ds, d.over) (hnd : x.ds.length ≤ 100000000) :
    Calls Tryd.prog 32 #[.pointer (some ⟨x.gw, 0, none⟩), .int .i64 time] W fun e w' => ∃ gt, e = .returned (.pointer (some ⟨gt, 0, none⟩)) ∧ ∃ o', o'.Perm (tkL x.ds) ∧ Srt o' ∧ PS x ga ans fr w0 B w' ∧ TabR gt (tabO (ahead o' time)).1 (tabO (ahead o' time)).2 w' ∧ (tabO (ahead o' time)).1.length = (tabO (ahead o' time)).2.length ∧ (tabO (ahead o' time)).1.length ≤ 100000000 := by
  obtain ⟨ov', o', h1, h2⟩ := h
  refine (at_any { x with ov := ov' } o' time _ w0 W B hov hnd h1 h2).mono ?_
  rintro e w' ⟨gt, rfl, ov2, o2, hp, hs, kv, vv, hM⟩
  have hlen : (tabO (ahead o2 time)).1.length = (tabO (ahead o2 time)).2.length ∧ (tabO (ahead o2 time)).1.length ≤ 100000000 := by
    obtain ⟨k, hk⟩ : ∃ k, ahead o2 time = o2.take k := ⟨_, (List.prefix_iff_eq_take.1 (List.takeWhile_prefix _))⟩
    have hkl : o2.take k = o2.take (min k o2.length) := by
      rcases Nat.le_total k o2.length with h | h
      · rw [Nat.min_eq_left h]
      · rw [Nat.min_eq_right h, List.take_of_length_le h, List.take_of_length_le (Nat.le_refl _)]
    rw [hk, hkl]
    have h3 := tabO_len o2 (min k o2.length)
    have h4 := hp.length_eq
    have h5 : (tkL x.ds).length ≤ x.ds.length := List.length_filterMap_le _ _
    exact ⟨h3.1, by have := h3.2; have h6 : min k o2.length ≤ o2.length := Nat.min_le_right _ _; change o2.length = (tkL x.ds).length at h4; omega⟩
  refine ⟨gt, rfl, o2, hp, hs, ⟨ov2, o2, Or.inr ⟨hp, hs⟩, (hM.sub (List.sublist_cons_self _ _)).sub (List.sublist_cons_self _ _) |>.sub (List.sublist_cons_self _ _)⟩, ⟨kv, vv, hM.cell (i := 0) rfl 0 _ rfl, hM.cell (i := 0) rfl 1 _ rfl, owns_rd (hM.get (i := 1) rfl).own, ?_⟩, hlen.1, hlen.2⟩
  have := (hM.get (i := 2) rfl).own
  rw [hlen.1] at this
  exact owns_rd this
end Go.Proofs.YtajobgmnmbnhiaaDoor.Sap

/- WHAT IS PROVED HERE: saplingkeep's single answers true of a Get, Put or Drop that has ended as it should, held against the map of its time. Conditions: all operations have ended; what is asked of its answer is named at the theorem (SinOk). -/
namespace Go.Proofs.YtajobgmnmbnhiaaDoor.Sap
open Go.RowKit

/-- The answer of a Get, Put or Drop that has ended is what a map answers that those ahead of it have made; or it was refused. -/
structure SinOk (x : Wd) (d : Dd) : Prop where
  ks : d.ks = []
  vs : d.vs = []
  cs : d.cs = []
  an : (d.er = 4 ∧ d.k = 2 ∧ d.fd = false ∧ d.va = 0) ∨ (d.er = 0 ∧ ∀ o', o'.Perm (tkL x.ds) → Srt o' → ∀ fd v, ValR (tabO (ahead o' (d.ts[d.pt.toNat]?.getD 0))).1 (tabO (ahead o' (d.ts[d.pt.toNat]?.getD 0))).2 d.key fd v → d.fd = fd ∧ d.va = v)

end Go.Proofs.YtajobgmnmbnhiaaDoor.Sap

/- WHAT IS PROVED HERE: saplingkeep's alone and settle over any program that keeps an invariant of the world: what a machine is (Mc), one client behind the other moves alone till all operations have ended. Conditions: those of a machine: each access and each beginning keeps the invariant, and a client that moves comes nearer to its end. -/
namespace Go.Proofs.YtajobgmnmbnhiaaDoor.Sap
open Go.RowKit

/-- What an access of client c leaves as it was. -/
structure Nx (c : Nat) (x x' : Wd) : Prop where
  now : x'.now = x.now + 1
  nd : x'.ds.length = x.ds.length
  bs : ∀ j, j ≠ c → x'.bs[j]? = x.bs[j]?
/-- A program over which scripts are played: an invariant that each access and each beginning keeps, and how far a client is from its end. -/
structure Mc (Inv : Wd → Prop) (rk : Nat → Wd → Nat) (gw : Nat) (w0 : World) (B : Nat) : Prop where
  pg : ∀ x, Inv x → x.gw = gw
  bs : ∀ x c, Inv x → c < 64 → x.bs[c]? = some (-1) ∨ (∃ i : Nat, x.bs[c]? = some (i : Int)) ∧ 0 < rk c x ∧ rk c x ≤ 1000
  now : ∀ x, Inv x → 0 ≤ x.now
  mv : ∀ x (c i : Nat) W (fr : List As), c < 64 → Inv x → x.now ≤ 90000000 → x.bs[c]? = some (i : Int) → M w0 B W (x.as ++ fr) → Calls Tryd.prog 56 #[.pointer (some ⟨gw, 0, none⟩), .int .i64 c] W fun e w' => (∃ u, e = .returned u) ∧ ∃ x', Inv x' ∧ Nx c x x' ∧ (x'.bs[c]? = some (-1) ∨ rk c x' < rk c x) ∧ M w0 B w' (x'.as ++ fr)
  bg : ∀ x (c : Nat) (k key v : Int) W (fr : List As), c < 64 → Inv x → x.ds.length ≤ 90000000 → opR k key v = true → x.bs[c]? = some (-1) → M w0 B W (x.as ++ fr) → Calls Tryd.prog 55 #[.pointer (some ⟨gw, 0, none⟩), .int .i64 c, .agg #[.int .i64 k, .int .i64 key, .int .i64 v]] W fun e w' => (∃ u, e = .returned u) ∧ ∃ x', Inv x' ∧ x'.now = x.now ∧ x'.ds.length = x.ds.length + 1 ∧ (∀ j, j ≠ c → x'.bs[j]? = x.bs[j]?) ∧ M w0 B w' (x'.as ++ fr)

theorem Mc.alone {Inv : Wd → Prop} {rk : Nat → Wd → Nat} {gw : Nat} {w0 : World} {B : Nat} (m : Mc Inv rk gw w0 B) (c : Nat) (x0 : Wd) (w : World) (fr : List As) (hc : c < 64) (hI : Inv x0) (hn : x0.now ≤ 89000000) (h : M w0 B w (x0.as ++ fr)) :
    Calls Tryd.prog 37 #[.pointer (some ⟨gw, 0, none⟩), .int .i64 c] w fun e w' => (∃ u, e = .returned u) ∧ ∃ x', Inv x' ∧ x'.bs[c]? = some (-1) ∧ x'.now ≤ x0.now + 1000 ∧ x'.ds.length = x0.ds.length ∧ (∀ j, j ≠ c → x'.bs[j]? = x0.bs[j]?) ∧ M w0 B w' (x'.as ++ fr) := by
  let rk2 : Wd → Nat := fun x => if x.bs[c]? = some (-1) then 0 else rk c x
  let I2 : Wd → Prop := fun x => Inv x ∧ x.now + (rk2 x : Int) ≤ x0.now + (rk2 x0 : Int) ∧ x.ds.length = x0.ds.length ∧ (∀ j, j ≠ c → x.bs[j]? = x0.bs[j]?)
  have hr0 : rk2 x0 ≤ 1000 := by
    show (if x0.bs[c]? = some (-1) then 0 else rk c x0) ≤ 1000
    rcases m.bs x0 c hI hc with h1 | ⟨-, -, h3⟩
    · rw [if_pos h1]; omega
    · split <;> omega
  refine (alone_gen c gw I2 rk2 fr w0 w B x0 hc (fun x hx => m.pg x hx.1) (fun x hx => ?_) (fun x i W hx hb hM => ?_) ⟨hI, Int.le_refl _, rfl, fun _ _ => rfl⟩ hr0 h).mono ?_
  · rcases m.bs x c hx.1 hc with h1 | ⟨⟨i, h2⟩, h3, -⟩
    · exact Or.inl h1
    · refine Or.inr ⟨⟨i, h2⟩, ?_⟩
      show 0 < (if x.bs[c]? = some (-1) then 0 else rk c x)
      rw [h2, if_neg (by intro e; have := Option.some.inj e; omega)]
      exact h3
  · have hb2 : rk2 x = rk c x := by
      show (if x.bs[c]? = some (-1) then 0 else rk c x) = rk c x
      rw [hb, if_neg (by intro e; have := Option.some.inj e; omega)]
    have hnow := m.now x0 hI
    have hpos : 0 < rk c x := by
      rcases m.bs x c hx.1 hc with h1 | ⟨-, h3, -⟩
      · rw [hb] at h1; have := Option.some.inj h1; omega
      · exact h3
    refine (m.mv x c i W fr hc hx.1 (by have := hx.2.1; omega) hb hM).mono ?_
    rintro e w' ⟨he, x', hI', hN, hR, hM'⟩
    have hlt : rk2 x' < rk2 x := by
      rw [hb2]
      show (if x'.bs[c]? = some (-1) then 0 else rk c x') < rk c x
      rcases hR with h1 | h1
      · rw [if_pos h1]; exact hpos
      · split <;> omega
    refine ⟨he, x', ⟨hI', ?_, hN.nd.trans hx.2.2.1, fun j hj => (hN.bs j hj).trans (hx.2.2.2 j hj)⟩, hlt, hM'⟩
    have := hx.2.1
    have := hN.now
    omega
  · rintro e w' ⟨he, x', hI', hb', hM'⟩
    refine ⟨he, x', hI'.1, hb', ?_, hI'.2.2.1, hI'.2.2.2, hM'⟩
    have := hI'.2.1
    omega

set_option maxRecDepth 100000 in
set_option maxHeartbeats 6400000 in
theorem Mc.settle {Inv : Wd → Prop} {rk : Nat → Wd → Nat} {gw : Nat} {w0 : World} {B : Nat} (m : Mc Inv rk gw w0 B) (x0 : Wd) (w : World) (fr : List As) (hI : Inv x0) (hn : x0.now ≤ 80000000) (h : M w0 B w (x0.as ++ fr)) :
    Calls Tryd.prog 30 #[.pointer (some ⟨gw, 0, none⟩)] w fun e w' => (∃ u, e = .returned u) ∧ ∃ x', Inv x' ∧ (∀ c, c < 64 → x'.bs[c]? = some (-1)) ∧ x'.now ≤ x0.now + 64000 ∧ x'.ds.length = x0.ds.length ∧ M w0 B w' (x'.as ++ fr) := by
  have HM := hideIt h
  have HI := hideIt hI
  have HMC := hideIt m
  clear h hI m
  go_enter Tryd.func30, Tryd.ntmps30
  go_wp2
  go_loopw [2] (fun y wr => ∃ (c : Nat) (x : Wd), y = .int .i64 c ∧ c ≤ 64 ∧ Hid (∀ j, j < c → x.bs[j]? = some (-1)) ∧ Hid (x.now ≤ x0.now + 1000 * (c : Int)) ∧ Hid (x.ds.length = x0.ds.length) ∧ Hid (Inv x) ∧ Hid (M w0 B wr (x.as ++ fr))) (fun i _ => 64 - (intOf i).toNat)
  case atStart => exact ⟨0, x0, rfl, by omega, fun j hj => by omega, by unfold Hid; omega, rfl, HI.out, HM.out⟩
  case round =>
    clear HM HI
    obtain ⟨c, x, rfl, hc, hr, hnw, hnd, hI, hM⟩ := hrel
    have hg := HMC.out.pg x hI.out
    subst hg
    have g14 := hM.out.cell (i := 0) rfl 14 (.bool false) rfl
    by_cases hlt : c < 64
    · have hc1 : (c : Int) < 64 := by omega
      have CM := hideIt (HMC.out.alone c x wr fr hlt hI.out (by have := hnw.out; omega) hM.out)
      clear hM hI
      go_wp2_with fail
      refine CM.out.mono ?_
      rintro e w1 ⟨⟨u, rfl⟩, x', hI', hb', hn', hd', hk', hM'⟩
      have HI2 := hideIt hI'
      have HM2 := hideIt hM'
      have HB : Hid (∀ j, j < c + 1 → x'.bs[j]? = some (-1)) := fun j hj => by
        rcases Nat.lt_or_ge j c with h | h
        · rw [hk' j (by omega)]; exact hr.out j h
        · obtain rfl : j = c := by omega
          exact hb'
      have HN : Hid (x'.now ≤ x0.now + 1000 * ((c + 1 : Nat) : Int)) := by unfold Hid; have := hnw.out; omega
      have HD : Hid (x'.ds.length = x0.ds.length) := hd'.trans hnd.out
      clear CM g14 hI' hM' hb' hk' hn' hd'
      go_wp2
      go_roundw
      case rel => exact ⟨c + 1, x', by go_num, by omega, HB.out, HN.out, HD.out, HI2.out, HM2.out⟩
      case measure => simp [intOf]; omega
    · obtain rfl : c = 64 := by omega
      rw [show ((64 : Nat) : Int) = 64 from rfl]
      have HM := hideIt hM.out
      clear hM
      go_wp2
      exact bodyPost_end (results_none Tryd.results30 _ _ _) rfl ⟨⟨_, rfl⟩, x, hI.out, hr.out, by have := hnw.out; omega, hnd.out, HM.out⟩
end Go.Proofs.YtajobgmnmbnhiaaDoor.Sap
