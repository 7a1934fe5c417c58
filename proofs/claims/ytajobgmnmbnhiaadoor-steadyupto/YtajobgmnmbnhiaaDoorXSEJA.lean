/- WHAT IS PROVED HERE: saplingkeep's world with the calls that were kept (Wk); alone and settle over any program that keeps an invariant of it (Mck). Conditions: those of a machine: each access and each beginning keeps the invariant, and a client that moves comes nearer to its end. -/
import Derived.Test.YtajobgmnmbnhiaaDoorXP2N5
import Derived.Test.YtajobgmnmbnhiaaDoorXN6N8
import Derived.Test.YtajobgmnmbnhiaaDoorXJ2S3
import Derived.Test.YtajobgmnmbnhiaaDoorXL4SC
import Derived.Deep.MidRow
namespace Go.Proofs.YtajobgmnmbnhiaaDoor.Sap
open Go.RowKit

/-- A call that was kept, and where its answer's lists lie. -/
structure Rc where
  f : ByteArray
  ak : Int
  ap : Int
  av : Int
  at' : ByteArray
  rv : Int
  rp : Int
  rt : ByteArray
  rd : Bool
  nx : ByteArray
  en : Bool
  er : Int
  fd : Bool
  va : Int
  pt : Int
  kv : Value
  vv : Value
  cv : Value
  ks : List Int
  vs : List Int
  cs : List (Int × Int)
def Rc.cells (r : Rc) : List Value := [.string r.f, .int .i64 r.ak, .int .i64 r.ap, .int .i64 r.av, .string r.at', .int .i64 r.rv, .int .i64 r.rp, .string r.rt, .bool r.rd, .string r.nx, .bool r.en, .int .i64 r.er, .bool r.fd, .int .i64 r.va, .int .i64 r.pt, r.kv, r.vv, r.cv]
def Rc.as (r : Rc) : List As := [.row 142 2 r.cv r.cs.length (cutc r.cs), .row 3 1 r.vv r.vs.length (ints r.vs), .row 3 1 r.kv r.ks.length (ints r.ks)]
/-- The program answers it so whenever it is asked. -/
structure Rc.ok (r : Rc) : Prop where
  sd : Stdy r.f r.ak r.ap r.av r.at' r.rv r.rp r.rt r.rd r.nx r.en r.er r.fd r.va r.pt r.ks r.vs r.cs
  kl : r.ks.length ≤ 1000000
  vl : r.vs.length ≤ 1000000
  cl : r.cs.length ≤ 1000000
/-- The world, and the calls that were kept. -/
structure Wk where
  wd : Wd
  cv : Value
  C : List Rc
def Wk.wk (x : Wk) : Wd := { x.wd with kp := true, cv := x.cv }
def Wk.ex (x : Wk) : List As := .row 78 18 x.cv x.C.length (x.C.flatMap Rc.cells) :: x.C.reverse.flatMap Rc.as
def Wk.as (x : Wk) : List As := x.wk.as ++ x.ex

section
variable {w0 W : World} {B : Nat} {x : Wk} {fr : List As}
theorem M.k14 (h : M w0 B W (x.as ++ fr)) : W.cell? ⟨x.wd.gw, 14, none⟩ = some (.bool false) := h.cell (i := 0) rfl 14 (.bool false) rfl
theorem M.kf14 (h : M w0 B W (x.as ++ fr)) : W.frozen? ⟨x.wd.gw, 14, none⟩ = false := h.free (i := 0) rfl 14
theorem M.ks14 (h : M w0 B W (x.as ++ fr)) : M w0 B (W.setCell ⟨x.wd.gw, 14, none⟩ (.bool false)) (x.as ++ fr) := h.store (i := 0) (j := 14) rfl (.bool false) rfl
theorem M.k4 (h : M w0 B W (x.as ++ fr)) : W.cell? ⟨x.wd.gw, 4, none⟩ = some (.slice (some ⟨x.wd.bg, 0, none⟩) 64 x.wd.bc) := h.cell (i := 0) rfl 4 (.slice (some ⟨x.wd.bg, 0, none⟩) 64 x.wd.bc) rfl
theorem M.k12 (h : M w0 B W (x.as ++ fr)) : W.cell? ⟨x.wd.gw, 12, none⟩ = some x.cv := h.cell (i := 0) rfl 12 x.cv rfl
theorem M.kb (h : M w0 B W (x.as ++ fr)) (c : Nat) (b : Int) (hb : x.wd.bs[c]? = some b) : W.cell? ⟨x.wd.bg, c, none⟩ = some (.int .i64 b) := h.rowCell (i := 1) rfl c (.int .i64 b) (ints_get hb)
end

set_option maxRecDepth 100000 in
set_option maxHeartbeats 6400000 in
theorem alone_genk (c gw : Nat) (I : Wk → Prop) (rk : Wk → Nat) (fr : List As) (w0 w : World) (B : Nat) (x0 : Wk) (hc : c < 64) (hgw : ∀ x, I x → x.wd.gw = gw) (hbs : ∀ x, I x → x.wd.bs[c]? = some (-1) ∨ (∃ i : Nat, x.wd.bs[c]? = some (i : Int)) ∧ 0 < rk x)
    (hstep : ∀ x (i : Nat) W, I x → x.wd.bs[c]? = some (i : Int) → M w0 B W (x.as ++ fr) → Calls Tryd.prog 56 #[.pointer (some ⟨gw, 0, none⟩), .int .i64 c] W fun e w' => (∃ u, e = .returned u) ∧ ∃ x', I x' ∧ rk x' < rk x ∧ M w0 B w' (x'.as ++ fr))
    (hI : I x0) (h0 : rk x0 ≤ 1000) (h : M w0 B w (x0.as ++ fr)) :
    Calls Tryd.prog 37 #[.pointer (some ⟨gw, 0, none⟩), .int .i64 c] w fun e w' => (∃ u, e = .returned u) ∧ ∃ x', I x' ∧ x'.wd.bs[c]? = some (-1) ∧ M w0 B w' (x'.as ++ fr) := by
  have hc0 : (0 : Int) ≤ (c : Int) := by omega
  have hc1 : (c : Int) < 64 := by omega
  have HM := hideIt h
  have HI := hideIt hI
  have HGW := hideIt hgw
  have HBS := hideIt hbs
  have HS := hideIt hstep
  clear h hI hgw hbs hstep
  go_enter Tryd.func37, Tryd.ntmps37
  go_wp2
  go_loopw [4] (fun y wr => ∃ (j n : Nat) (x : Wk), y = .int .i64 j ∧ j + n ≤ 1000 ∧ Hid (rk x = n) ∧ Hid (I x) ∧ Hid (M w0 B wr (x.as ++ fr))) (fun i _ => 1000 - (intOf i).toNat)
  case atStart => exact ⟨0, rk x0, x0, rfl, by omega, rfl, HI.out, HM.out⟩
  case round =>
    clear HM HI
    obtain ⟨j, n, x, rfl, hj, hr, hI, hM⟩ := hrel
    have hg := HGW.out x hI.out
    subst hg
    have g14 := hM.out.k14
    have g4 := hM.out.k4
    rcases HBS.out x hI.out with hb | ⟨⟨i, hb⟩, hpos⟩
    · have b0 := hM.out.kb c _ hb
      have e14 := hM.out.kf14
      have S1 := hideIt hM.out.ks14
      have HB := hideIt hb
      clear hM hb
      by_cases hj1 : (j : Int) < 1000
      · go_wp2
        exact bodyPost_end (results_none Tryd.results37 _ _ _) rfl ⟨⟨_, rfl⟩, x, hI.out, HB.out, S1.out⟩
      · go_wp2
        exact bodyPost_end (results_none Tryd.results37 _ _ _) rfl ⟨⟨_, rfl⟩, x, hI.out, HB.out, S1.out⟩
    · have b0 := hM.out.kb c _ hb
      rw [hr.out] at hpos
      have hj1 : (j : Int) < 1000 := by omega
      have hi0 : (0 : Int) ≤ (i : Int) := by omega
      have CM := hideIt (HS.out x i wr hI.out hb hM.out)
      clear hM hb hI
      go_wp2_with fail
      refine CM.out.mono ?_
      rintro e w1 ⟨⟨u, rfl⟩, x', hI', hr', hM'⟩
      have HI2 := hideIt hI'
      have HM2 := hideIt hM'
      rw [hr.out] at hr'
      clear CM g14 g4 b0 hI' hM'
      go_wp2
      go_roundw
      case rel => exact ⟨j + 1, rk x', x', by go_num, by omega, rfl, HI2.out, HM2.out⟩
      case measure => simp [intOf]; omega

/-- What an access of client c leaves as it was. -/
structure Nxk (c : Nat) (x x' : Wk) : Prop where
  now : x'.wd.now = x.wd.now + 1
  nd : x'.wd.ds.length = x.wd.ds.length
  bs : ∀ j, j ≠ c → x'.wd.bs[j]? = x.wd.bs[j]?
/-- A program over which scripts are played: an invariant that each access and each beginning keeps, and how far a client is from its end. -/
structure Mck (Inv : Wk → Prop) (rk : Nat → Wk → Nat) (gw : Nat) (w0 : World) (B : Nat) : Prop where
  pg : ∀ x, Inv x → x.wd.gw = gw
  bs : ∀ x c, Inv x → c < 64 → x.wd.bs[c]? = some (-1) ∨ (∃ i : Nat, x.wd.bs[c]? = some (i : Int)) ∧ 0 < rk c x ∧ rk c x ≤ 1000
  now : ∀ x, Inv x → 0 ≤ x.wd.now
  mv : ∀ x (c i : Nat) W (fr : List As), c < 64 → Inv x → x.wd.now ≤ 90000000 → x.wd.bs[c]? = some (i : Int) → M w0 B W (x.as ++ fr) → Calls Tryd.prog 56 #[.pointer (some ⟨gw, 0, none⟩), .int .i64 c] W fun e w' => (∃ u, e = .returned u) ∧ ∃ x', Inv x' ∧ Nxk c x x' ∧ (x'.wd.bs[c]? = some (-1) ∨ rk c x' < rk c x) ∧ M w0 B w' (x'.as ++ fr)
  bg : ∀ x (c : Nat) (k key v : Int) W (fr : List As), c < 64 → Inv x → x.wd.ds.length ≤ 90000000 → opR k key v = true → x.wd.bs[c]? = some (-1) → M w0 B W (x.as ++ fr) → Calls Tryd.prog 55 #[.pointer (some ⟨gw, 0, none⟩), .int .i64 c, .agg #[.int .i64 k, .int .i64 key, .int .i64 v]] W fun e w' => (∃ u, e = .returned u) ∧ ∃ x', Inv x' ∧ x'.wd.now = x.wd.now ∧ x'.wd.ds.length = x.wd.ds.length + 1 ∧ (∀ j, j ≠ c → x'.wd.bs[j]? = x.wd.bs[j]?) ∧ M w0 B w' (x'.as ++ fr)

theorem Mck.alone {Inv : Wk → Prop} {rk : Nat → Wk → Nat} {gw : Nat} {w0 : World} {B : Nat} (m : Mck Inv rk gw w0 B) (c : Nat) (x0 : Wk) (w : World) (fr : List As) (hc : c < 64) (hI : Inv x0) (hn : x0.wd.now ≤ 89000000) (h : M w0 B w (x0.as ++ fr)) :
    Calls Tryd.prog 37 #[.pointer (some ⟨gw, 0, none⟩), .int .i64 c] w fun e w' => (∃ u, e = .returned u) ∧ ∃ x', Inv x' ∧ x'.wd.bs[c]? = some (-1) ∧ x'.wd.now ≤ x0.wd.now + 1000 ∧ x'.wd.ds.length = x0.wd.ds.length ∧ (∀ j, j ≠ c → x'.wd.bs[j]? = x0.wd.bs[j]?) ∧ M w0 B w' (x'.as ++ fr) := by
  let rk2 : Wk → Nat := fun x => if x.wd.bs[c]? = some (-1) then 0 else rk c x
  let I2 : Wk → Prop := fun x => Inv x ∧ x.wd.now + (rk2 x : Int) ≤ x0.wd.now + (rk2 x0 : Int) ∧ x.wd.ds.length = x0.wd.ds.length ∧ (∀ j, j ≠ c → x.wd.bs[j]? = x0.wd.bs[j]?)
  have hr0 : rk2 x0 ≤ 1000 := by
    show (if x0.wd.bs[c]? = some (-1) then 0 else rk c x0) ≤ 1000
    rcases m.bs x0 c hI hc with h1 | ⟨-, -, h3⟩
    · rw [if_pos h1]; omega
    · split <;> omega
  refine (alone_genk c gw I2 rk2 fr w0 w B x0 hc (fun x hx => m.pg x hx.1) (fun x hx => ?_) (fun x i W hx hb hM => ?_) ⟨hI, Int.le_refl _, rfl, fun _ _ => rfl⟩ hr0 h).mono ?_
  · rcases m.bs x c hx.1 hc with h1 | ⟨⟨i, h2⟩, h3, -⟩
    · exact Or.inl h1
    · refine Or.inr ⟨⟨i, h2⟩, ?_⟩
      show 0 < (if x.wd.bs[c]? = some (-1) then 0 else rk c x)
      rw [h2, if_neg (by intro e; have := Option.some.inj e; omega)]
      exact h3
  · have hb2 : rk2 x = rk c x := by
      show (if x.wd.bs[c]? = some (-1) then 0 else rk c x) = rk c x
      rw [hb, if_neg (by intro e; have := Option.some.inj e; omega)]
    have hnow := m.now x0 hI
    have hpos : 0 < rk c x := by
      rcases m.bs x c hx.1 hc with h1 | ⟨-, h3, -⟩
      · rw [hb] at h1; have := Option.some.inj h1; omega
      · exact h3
    refine (m.mv x c i W fr hc hx.1 (by have := hx.2.1; omega) hb hM).mono ?_
    rintro e w' ⟨he, x', hI', hN, hR, hM'⟩
    have hlt : rk2 x' < rk2 x := by
      rw [hb2]
      show (if x'.wd.bs[c]? = some (-1) then 0 else rk c x') < rk c x
      rcases hR with h1 | h1
      · rw [if_pos h1]; exact hpos
      · split <;> omega
    refine ⟨he, x', ⟨hI', ?_, hN.nd.trans hx.2.2.1, fun j hj => (hN.bs j hj).trans (hx.2.2.2 j hj)⟩, hlt, hM'⟩
    have := hx.2.1
    have := hN.now
    omega
  · rintro e w' ⟨he, x', hI', hb', hM'⟩
    refine ⟨he, x', hI'.1, hb', ?_, hI'.2.2.1, hI'.2.2.2, hM'⟩
    have := hI'.2.1
    omega

set_option maxRecDepth 100000 in
set_option maxHeartbeats 6400000 in
theorem Mck.settle {Inv : Wk → Prop} {rk : Nat → Wk → Nat} {gw : Nat} {w0 : World} {B : Nat} (m : Mck Inv rk gw w0 B) (x0 : Wk) (w : World) (fr : List As) (hI : Inv x0) (hn : x0.wd.now ≤ 80000000) (h : M w0 B w (x0.as ++ fr)) :
    Calls Tryd.prog 30 #[.pointer (some ⟨gw, 0, none⟩)] w fun e w' => (∃ u, e = .returned u) ∧ ∃ x', Inv x' ∧ (∀ c, c < 64 → x'.wd.bs[c]? = some (-1)) ∧ x'.wd.now ≤ x0.wd.now + 64000 ∧ x'.wd.ds.length = x0.wd.ds.length ∧ M w0 B w' (x'.as ++ fr) := by
  have HM := hideIt h
  have HI := hideIt hI
  have HMC := hideIt m
  clear h hI m
  go_enter Tryd.func30, Tryd.ntmps30
  go_wp2
  go_loopw [2] (fun y wr => ∃ (c : Nat) (x : Wk), y = .int .i64 c ∧ c ≤ 64 ∧ Hid (∀ j, j < c → x.wd.bs[j]? = some (-1)) ∧ Hid (x.wd.now ≤ x0.wd.now + 1000 * (c : Int)) ∧ Hid (x.wd.ds.length = x0.wd.ds.length) ∧ Hid (Inv x) ∧ Hid (M w0 B wr (x.as ++ fr))) (fun i _ => 64 - (intOf i).toNat)
  case atStart => exact ⟨0, x0, rfl, by omega, fun j hj => by omega, by unfold Hid; omega, rfl, HI.out, HM.out⟩
  case round =>
    clear HM HI
    obtain ⟨c, x, rfl, hc, hr, hnw, hnd, hI, hM⟩ := hrel
    have hg := HMC.out.pg x hI.out
    subst hg
    have g14 := hM.out.k14
    by_cases hlt : c < 64
    · have hc1 : (c : Int) < 64 := by omega
      have CM := hideIt (HMC.out.alone c x wr fr hlt hI.out (by have := hnw.out; omega) hM.out)
      clear hM hI
      go_wp2_with fail
      refine CM.out.mono ?_
      rintro e w1 ⟨⟨u, rfl⟩, x', hI', hb', hn', hd', hk', hM'⟩
      have HI2 := hideIt hI'
      have HM2 := hideIt hM'
      have HB : Hid (∀ j, j < c + 1 → x'.wd.bs[j]? = some (-1)) := fun j hj => by
        rcases Nat.lt_or_ge j c with h | h
        · rw [hk' j (by omega)]; exact hr.out j h
        · obtain rfl : j = c := by omega
          exact hb'
      have HN : Hid (x'.wd.now ≤ x0.wd.now + 1000 * ((c + 1 : Nat) : Int)) := by unfold Hid; have := hnw.out; omega
      have HD : Hid (x'.wd.ds.length = x0.wd.ds.length) := hd'.trans hnd.out
      clear CM g14 hI' hM' hb' hk' hn' hd'
      go_wp2
      go_roundw
      case rel => exact ⟨c + 1, x', by go_num, by omega, HB.out, HN.out, HD.out, HI2.out, HM2.out⟩
      case measure => simp [intOf]; omega
    · obtain rfl : c = 64 := by omega
      rw [show ((64 : Nat) : Int) = 64 from rfl]
      have HM := hideIt hM.out
      clear hM
      go_wp2
      exact bodyPost_end (results_none Tryd.results30 _ _ _) rfl ⟨⟨_, rfl⟩, x, hI.out, hr.out, by have := hnw.out; omega, hnd.out, HM.out⟩
end Go.Proofs.YtajobgmnmbnhiaaDoor.Sap

/- WHAT IS PROVED HERE: saplingkeep's turn over any program that keeps an invariant of the world with the calls that were kept (Mck). Conditions: the numbers are small. -/
namespace Go.Proofs.YtajobgmnmbnhiaaDoor.Sap
open Go.RowKit

set_option maxRecDepth 100000 in
set_option maxHeartbeats 6400000 in
theorem Mck.turn {Inv : Wk → Prop} {rk : Nat → Wk → Nat} {gw : Nat} {w0 : World} {B : Nat} (m : Mck Inv rk gw w0 B) (x0 : Wk) (cl k key v mv : Int) (w : World) (fr : List As) (hcl : I64 cl) (hk : I64 k) (hkey : I64 key) (hv : I64 v) (hmv : I64 mv) (hI : Inv x0) (hn : x0.wd.now ≤ 80000000) (hd : x0.wd.ds.length ≤ 80000000) (h : M w0 B w (x0.as ++ fr)) :
    Calls Tryd.prog 29 #[.pointer (some ⟨gw, 0, none⟩), .agg #[.int .i64 cl, .int .i64 k, .int .i64 key, .int .i64 v, .int .i64 mv]] w fun e w' => (∃ u, e = .returned u) ∧ ∃ x', Inv x' ∧ x'.wd.now ≤ x0.wd.now + 40 ∧ x'.wd.ds.length ≤ x0.wd.ds.length + 1 ∧ M w0 B w' (x'.as ++ fr) := by
  have A0 := hideIt (h.alloc #[.int .i64 cl, .int .i64 k, .int .i64 key, .int .i64 v, .int .i64 mv] 61)
  obtain ⟨hc0, hc1⟩ := pickV_bd cl 64 (by omega)
  obtain ⟨hm0, hm1⟩ := pickV_bd mv 40 (by omega)
  have P1 := hideIt (fun W => pick_ok cl 64 W ⟨hcl, by omega, by omega⟩)
  have P2 := hideIt (fun W => pick_ok mv 40 W ⟨hmv, by omega, by omega⟩)
  have P3 := hideIt (fun W => right_make k key v W hk hkey hv)
  have P4 := hideIt (right_right k key v)
  obtain ⟨c, hcc⟩ : ∃ c : Nat, pickV cl 64 = (c : Int) := ⟨(pickV cl 64).toNat, by omega⟩
  obtain ⟨n, hnn⟩ : ∃ n : Nat, pickV mv 40 = (n : Int) := ⟨(pickV mv 40).toNat, by omega⟩
  rw [hcc] at P1 hc0 hc1
  rw [hnn] at P2 hm0 hm1
  have HMC := hideIt m
  have HI := hideIt hI
  have HN := hideIt hn
  have HD := hideIt hd
  obtain ⟨gt, hgt⟩ : ∃ g, w.heap.size = g := ⟨_, rfl⟩
  have hg := m.pg x0 hI
  have hbs := m.bs x0 c hI (by omega)
  subst hg
  clear h hcl hk hkey hv hmv hI hn hd m hcc hnn
  go_enter Tryd.func29, Tryd.ntmps29
  rw [hgt] at A0
  obtain ⟨FB, hFB⟩ : ∃ F, F = (As.blk gt #[.int .i64 cl, .int .i64 k, .int .i64 key, .int .i64 v, .int .i64 mv] 61 :: fr) := ⟨_, rfl⟩
  have HFB := hideIt hFB
  have HIN : Hid (∀ x : Wk, As.blk gt #[.int .i64 cl, .int .i64 k, .int .i64 key, .int .i64 v, .int .i64 mv] 61 ∈ x.as ++ FB) := fun x => by rw [HFB.out]; simp
  have A1 := hideIt (A0.out.perm (List.perm_middle (l₁ := x0.as)))
  rw [← hFB] at A1
  clear hFB A0
  go_wp2_with fail
  refine (P1.out _).mono ?_
  rintro e w1 ⟨rfl, rfl⟩
  generalize hW1 : w.alloc _ = w1 at A1 ⊢
  clear hW1 hgt
  have g4 := A1.out.k4
  rcases hbs with hb | ⟨⟨i, hb⟩, -, -⟩
  · have b0 := A1.out.kb c _ hb
    have p1 := A1.out.cellIn (HIN.out x0) 1 (.int .i64 k) rfl
    have p2 := A1.out.cellIn (HIN.out x0) 2 (.int .i64 key) rfl
    have p3 := A1.out.cellIn (HIN.out x0) 3 (.int .i64 v) rfl
    have HB := hideIt hb
    clear hb
    go_wp2_with fail
    refine (P3.out _).mono ?_
    rintro e w2 ⟨rfl, hb⟩
    have A2 := hideIt (A1.out.below hb)
    clear hb A1 g4 b0 p1 p2 p3
    go_wp2_with fail
    refine (HMC.out.bg x0 c _ _ _ w2 FB (by omega) HI.out (by have := HD.out; omega) P4.out HB.out A2.out).mono ?_
    rintro e w3 ⟨⟨u, rfl⟩, x1, hI1, hn1, hd1, -, hM1⟩
    have HI1 := hideIt hI1
    have HN1 : Hid (x1.wd.now ≤ x0.wd.now) := by unfold Hid; omega
    have HD1 : Hid (x1.wd.ds.length ≤ x0.wd.ds.length + 1) := by unfold Hid; omega
    have A3 := hideIt hM1
    clear hI1 hn1 hd1 hM1 A2 HB
    have p4 := A3.out.cellIn (HIN.out x1) 4 (.int .i64 mv) rfl
    go_wp2_with fail
    refine (P2.out _).mono ?_
    rintro e w9 ⟨rfl, rfl⟩
    clear p4
    go_wp2
    go_loopw [6] (fun y wr => ∃ (j : Nat) (x : Wk), y = .int .i64 j ∧ j ≤ n + 1 ∧ Hid (x.wd.now ≤ x0.wd.now + (j : Int)) ∧ Hid (x.wd.ds.length ≤ x0.wd.ds.length + 1) ∧ Hid (Inv x) ∧ Hid (M w0 B wr (x.as ++ FB))) (fun i _ => (n + 1) - (intOf i).toNat)
    case atStart => exact ⟨0, x1, rfl, by omega, by unfold Hid; have := HN1.out; omega, HD1.out, HI1.out, A3.out⟩
    case round =>
      clear A3 HI1 HN1 HD1
      obtain ⟨j, x, rfl, hj, hnw, hnd, hI, hM⟩ := hrel
      have hg : Hid (x.wd.gw = x0.wd.gw) := HMC.out.pg x hI.out
      have g14 := hM.out.k14
      have g4 := hM.out.k4
      rw [hg.out] at g14 g4
      by_cases hlt : j < n + 1
      · have hj1 : (j : Int) < 1 + (n : Int) := by omega
        rcases HMC.out.bs x c hI.out (by omega) with hb | ⟨⟨i, hb⟩, -, -⟩
        · have b0 := hM.out.kb c _ hb
          clear hb
          go_wp2
          exact bodyPost_end (results_none Tryd.results29 _ _ _) rfl ⟨⟨_, rfl⟩, x, hI.out, by have := hnw.out; omega, hnd.out, by have h9 := hM.out; rw [HFB.out] at h9; exact (h9.perm (List.perm_middle (l₁ := x.as)).symm).sub (List.sublist_cons_self _ _)⟩
        · have b0 := hM.out.kb c _ hb
          have hi0 : (0 : Int) ≤ (i : Int) := by omega
          have CM := hideIt (HMC.out.mv x c i wr FB (by omega) hI.out (by have := hnw.out; have := HN.out; omega) hb hM.out)
          clear hM hb hI
          go_wp2_with fail
          refine CM.out.mono ?_
          rintro e w4 ⟨⟨u, rfl⟩, x', hI', hN', -, hM'⟩
          have HI2 := hideIt hI'
          have HM2 := hideIt hM'
          have HN2 : Hid (x'.wd.now ≤ x0.wd.now + ((j + 1 : Nat) : Int)) := by unfold Hid; have := hnw.out; have := hN'.now; omega
          have HD2 : Hid (x'.wd.ds.length ≤ x0.wd.ds.length + 1) := by unfold Hid; rw [hN'.nd]; exact hnd.out
          clear CM g14 g4 b0 hI' hM' hN' hg
          go_wp2
          go_roundw
          case rel => exact ⟨j + 1, x', by go_num, by omega, HN2.out, HD2.out, HI2.out, HM2.out⟩
          case measure => simp [intOf]; omega
      · have hj1 : ¬ ((j : Int) < 1 + (n : Int)) := by omega
        have hjn : (1 : Int) + (n : Int) ≤ (j : Int) := by omega
        go_wp2
        exact bodyPost_end (results_none Tryd.results29 _ _ _) rfl ⟨⟨_, rfl⟩, x, hI.out, by have := hnw.out; omega, hnd.out, by have h9 := hM.out; rw [HFB.out] at h9; exact (h9.perm (List.perm_middle (l₁ := x.as)).symm).sub (List.sublist_cons_self _ _)⟩
  · have b0 := A1.out.kb c _ hb
    have hi0 : (0 : Int) ≤ (i : Int) := by omega
    obtain ⟨x1, hx1⟩ : ∃ x1, x1 = x0 := ⟨_, rfl⟩
    have HI1 : Hid (Inv x1) := by rw [hx1]; exact HI.out
    have HN1 : Hid (x1.wd.now ≤ x0.wd.now) := by unfold Hid; rw [hx1]; omega
    have HD1 : Hid (x1.wd.ds.length ≤ x0.wd.ds.length + 1) := by unfold Hid; rw [hx1]; omega
    have A3 : Hid (M w0 B w1 (x1.as ++ FB)) := by rw [hx1]; exact A1.out
    clear hb A1 hx1
    have p4 := A3.out.cellIn (HIN.out x1) 4 (.int .i64 mv) rfl
    go_wp2_with fail
    refine (P2.out _).mono ?_
    rintro e w9 ⟨rfl, rfl⟩
    clear p4
    go_wp2
    go_loopw [6] (fun y wr => ∃ (j : Nat) (x : Wk), y = .int .i64 j ∧ j ≤ n + 1 ∧ Hid (x.wd.now ≤ x0.wd.now + (j : Int)) ∧ Hid (x.wd.ds.length ≤ x0.wd.ds.length + 1) ∧ Hid (Inv x) ∧ Hid (M w0 B wr (x.as ++ FB))) (fun i _ => (n + 1) - (intOf i).toNat)
    case atStart => exact ⟨0, x1, rfl, by omega, by unfold Hid; have := HN1.out; omega, HD1.out, HI1.out, A3.out⟩
    case round =>
      clear A3 HI1 HN1 HD1
      obtain ⟨j, x, rfl, hj, hnw, hnd, hI, hM⟩ := hrel
      have hg : Hid (x.wd.gw = x0.wd.gw) := HMC.out.pg x hI.out
      have g14 := hM.out.k14
      have g4 := hM.out.k4
      rw [hg.out] at g14 g4
      by_cases hlt : j < n + 1
      · have hj1 : (j : Int) < 1 + (n : Int) := by omega
        rcases HMC.out.bs x c hI.out (by omega) with hb | ⟨⟨i, hb⟩, -, -⟩
        · have b0 := hM.out.kb c _ hb
          clear hb
          go_wp2
          exact bodyPost_end (results_none Tryd.results29 _ _ _) rfl ⟨⟨_, rfl⟩, x, hI.out, by have := hnw.out; omega, hnd.out, by have h9 := hM.out; rw [HFB.out] at h9; exact (h9.perm (List.perm_middle (l₁ := x.as)).symm).sub (List.sublist_cons_self _ _)⟩
        · have b0 := hM.out.kb c _ hb
          have hi0 : (0 : Int) ≤ (i : Int) := by omega
          have CM := hideIt (HMC.out.mv x c i wr FB (by omega) hI.out (by have := hnw.out; have := HN.out; omega) hb hM.out)
          clear hM hb hI
          go_wp2_with fail
          refine CM.out.mono ?_
          rintro e w4 ⟨⟨u, rfl⟩, x', hI', hN', -, hM'⟩
          have HI2 := hideIt hI'
          have HM2 := hideIt hM'
          have HN2 : Hid (x'.wd.now ≤ x0.wd.now + ((j + 1 : Nat) : Int)) := by unfold Hid; have := hnw.out; have := hN'.now; omega
          have HD2 : Hid (x'.wd.ds.length ≤ x0.wd.ds.length + 1) := by unfold Hid; rw [hN'.nd]; exact hnd.out
          clear CM g14 g4 b0 hI' hM' hN' hg
          go_wp2
          go_roundw
          case rel => exact ⟨j + 1, x', by go_num, by omega, HN2.out, HD2.out, HI2.out, HM2.out⟩
          case measure => simp [intOf]; omega
      · have hj1 : ¬ ((j : Int) < 1 + (n : Int)) := by omega
        have hjn : (1 : Int) + (n : Int) ≤ (j : Int) := by omega
        go_wp2
        exact bodyPost_end (results_none Tryd.results29 _ _ _) rfl ⟨⟨_, rfl⟩, x, hI.out, by have := hnw.out; omega, hnd.out, by have h9 := hM.out; rw [HFB.out] at h9; exact (h9.perm (List.perm_middle (l₁ := x.as)).symm).sub (List.sublist_cons_self _ _)⟩
end Go.Proofs.YtajobgmnmbnhiaaDoor.Sap

/- WHAT IS PROVED HERE: saplingkeep's Steady answers true over any program that keeps an invariant of the world, while each call is kept, in which each call that was kept is answered so whenever it is asked. Conditions: named at the theorem; the script has at most 1048576 turns. -/
namespace Go.Proofs.YtajobgmnmbnhiaaDoor.Sap
open Go.RowKit

theorem flat_at {C : List Rc} {i j : Nat} {r : Rc} {v : Value} (hr : C[i]? = some r) (hv : r.cells[j]? = some v) : (C.flatMap Rc.cells)[i * 18 + j]? = some v := by
  induction C generalizing i with
  | nil => simp at hr
  | cons a l ih =>
    have ha : a.cells.length = 18 := rfl
    rw [List.flatMap_cons]
    cases i with
    | zero =>
      have hj : j < r.cells.length := (List.getElem?_eq_some_iff.1 hv).1
      have e : a = r := by simpa using hr
      subst e
      rw [List.getElem?_append_left (by omega)]
      simpa using hv
    | succ i =>
      rw [List.getElem?_append_right (by omega), ha, show (i + 1) * 18 + j - 18 = i * 18 + j by omega]
      exact ih (by simpa using hr)
/-- One of the calls that were kept, as it lies in memory, and its lists. -/
theorem M.callAt {w0 W : World} {B i : Nat} {x : Wk} {r : Rc} (h : M w0 B W (x.as ++ [])) (hr : x.C[i]? = some r) :
    ∃ g cap, x.cv = .slice (some ⟨g, 0, none⟩) x.C.length cap ∧ W.rangeAt g (i * 18) r.cells ∧ Rd W r.kv r.ks ∧ Rd W r.vv r.vs ∧ CRd W r.cv r.cs := by
  have hl := (List.getElem?_eq_some_iff.1 hr).1
  rw [List.append_nil] at h
  have hin : ∀ a ∈ x.ex, a.holds W B := fun a ha => h.holds a (List.mem_append.2 (Or.inr ha))
  have h0 := hin _ (List.mem_cons_self)
  obtain ⟨g, cap, hg⟩ := As.form h0 (by omega)
  have hmem : ∀ a ∈ r.as, a.holds W B := fun a ha => hin a (List.mem_cons_of_mem _ (List.mem_flatMap.2 ⟨r, List.mem_reverse.2 (List.mem_of_getElem? hr), ha⟩))
  refine ⟨g, cap, hg, fun j v hv => ?_, owns_rd (hmem (.row 3 1 r.kv r.ks.length (ints r.ks)) (by unfold Rc.as; simp)).own, owns_rd (hmem (.row 3 1 r.vv r.vs.length (ints r.vs)) (by unfold Rc.as; simp)).own, crd_of_row rfl (hmem (.row 142 2 r.cv r.cs.length (cutc r.cs)) (by unfold Rc.as; simp))⟩
  have hj : j < 18 := (List.getElem?_eq_some_iff.1 hv).1
  rw [hg] at h0
  rw [World.ownsRow.cellAt h0.own _ (by omega)]
  exact flat_at hr hv

theorem infoCallSz : (Tryd.prog.info? 78).map (·.size) = some 18 := by kernel_rfl
set_option maxRecDepth 100000 in
set_option maxHeartbeats 6400000 in
theorem steady_gen (sv : Value) (ts : List Tn) (Inv0 : Nat → Wd → Prop) (rk0 : Nat → Wd → Nat) (Inv : Nat → Wk → Prop) (rk : Nat → Wk → Nat) (w : World) (htab : Tab w) (hT : TRd w sv ts) (hok : ∀ t ∈ ts, t.ok) (hlen : ts.length ≤ 1048576) (G : Good Inv0 rk0)
    (hMc : ∀ W, Tab W → Mck (Inv W.heap.size) rk W.heap.size W W.heap.size) (hIni : ∀ gw tg tc ug uc vg vc bg bc, Inv gw ⟨Wd.first gw tg tc ug uc vg vc bg bc, .slice none 0 0, []⟩)
    (hC : ∀ gw x, Inv gw x → (∀ r ∈ x.C, r.ok) ∧ (x.C.length : Int) ≤ x.wd.now) :
    Calls Tryd.prog 9 #[sv] w fun e w' => e = .returned (.bool true) ∧ Below w.heap.size w w' := by
  have HT := hideIt hT
  have HOK := hideIt hok
  have HL := hideIt hlen
  have HMCA := hideIt hMc
  have HINI := hideIt hIni
  have HC := hideIt hC
  obtain ⟨ao, cap, rfl, -⟩ := hT
  obtain ⟨n, hn⟩ : ∃ n, ts.length = n := ⟨_, rfl⟩
  have HNN := hideIt hn
  rw [hn] at HL HT ⊢
  obtain ⟨Pv, Pb, hpv, hp0⟩ := G.pv w htab
  have CP := hideIt (proved_gen Pv Pb w hpv hp0)
  clear hok hlen G hpv hp0 hMc hIni hC hn
  go_enter Tryd.func9, Tryd.ntmps9
  go_wp2_with fail
  refine CP.out.mono ?_
  rintro e w1 ⟨rfl, hb1⟩
  have HB1 := hideIt hb1
  have HTB := hideIt (htab.below hb1)
  have HMC := hideIt (HMCA.out w1 (htab.below hb1))
  have HT1 := hideIt (HT.out.below hb1)
  clear hb1 CP HT
  go_wp2_with fail
  refine (fresh_wd w1).mono ?_
  rintro e w2 ⟨rfl, tg, tc, ug, uc, vg, vc, bg, bc, hM⟩
  obtain ⟨x0, hx0⟩ : ∃ y : Wk, y = ⟨Wd.first w1.heap.size tg tc ug uc vg vc bg bc, .slice none 0 0, []⟩ := ⟨_, rfl⟩
  have S1 : Hid (M w1 w1.heap.size (w2.setCell ⟨w1.heap.size, 11, none⟩ (.bool true)) (x0.as ++ [])) := by
    subst hx0
    have h1 := hM.store (i := 0) (j := 11) rfl (.bool true) rfl
    have h2 := h1.snocNil (e := 78) (z := 18)
    unfold Hid
    rw [List.append_nil]
    rw [List.append_nil] at h2
    exact h2
  have HI0 : Hid (Inv w1.heap.size x0) := by unfold Hid; rw [hx0]; exact HINI.out w1.heap.size tg tc ug uc vg vc bg bc
  have HX0 : Hid (x0.wd.now = 0 ∧ x0.wd.ds = []) := by unfold Hid; rw [hx0]; exact ⟨rfl, rfl⟩
  have c11 := hM.cell (i := 0) rfl 11 (.bool false) rfl
  have f11 := hM.free (i := 0) rfl 11
  obtain ⟨gw, hgw⟩ : ∃ g, w1.heap.size = g := ⟨_, rfl⟩
  have HGW := hideIt hgw
  rw [show (Wd.first w1.heap.size tg tc ug uc vg vc bg bc).gw = w1.heap.size from rfl] at c11 f11
  rw [hgw] at S1 HI0 HMC c11 f11 ⊢
  clear hM hx0 hgw
  go_wp2
  go_loopw [5] (fun y wr => ∃ (j : Nat) (x : Wk), y = .int .i64 j ∧ j ≤ n ∧ Hid (x.wd.now ≤ 40 * (j : Int)) ∧ Hid (x.wd.ds.length ≤ j) ∧ Hid (Inv gw x) ∧ Hid (M w1 gw wr (x.as ++ []))) (fun i _ => n - (intOf i).toNat)
  case atStart => exact ⟨0, x0, rfl, by omega, by unfold Hid; rw [HX0.out.1]; decide, by unfold Hid; rw [HX0.out.2]; exact Nat.le_refl _, HI0.out, S1.out⟩
  case round =>
    clear S1 HI0 HX0 c11 f11
    obtain ⟨j, x, rfl, hj, hnw, hnd, hI, hM⟩ := hrel
    have hg : Hid (x.wd.gw = gw) := HMC.out.pg x hI.out
    have g14 := hM.out.k14
    rw [hg.out] at g14
    by_cases hlt : j < n
    · have hj1 : (j : Int) < (n : Int) := by omega
      have hj0 : (0 : Int) ≤ (j : Int) := by omega
      have hl6 := HL.out
      obtain ⟨ao2, cap2, e2, hT2⟩ := HT1.out
      obtain ⟨b, off, e3, hT3⟩ := hT2 (by rw [HNN.out]; omega)
      obtain ⟨t, ht⟩ : ∃ t, ts[j]? = some t := ⟨_, List.getElem?_eq_getElem (by rw [HNN.out]; exact hlt)⟩
      rw [HNN.out] at e2
      cases e2
      subst e3
      have hb2 : Below w1.heap.size w1 wr := by have := hM.out.bl; rw [← HGW.out] at this; exact this
      obtain ⟨c0, c1, c2, c3, c4⟩ := hT3 j t ht
      have c0 := cell_below hb2 _ _ c0
      have c1 := cell_below hb2 _ _ c1
      have c2 := cell_below hb2 _ _ c2
      have c3 := cell_below hb2 _ _ c3
      have c4 := cell_below hb2 _ _ c4
      have hok := HOK.out t (List.mem_of_getElem? ht)
      have CM := hideIt (HMC.out.turn x t.cl t.k t.key t.v t.mv wr [] hok.cl hok.k hok.key hok.v hok.mv hI.out (by have := hnw.out; have := HL.out; omega) (by have := hnd.out; have := HL.out; omega) hM.out)
      clear hM hI hb2 hT3 hT2 ht hok
      go_wp2_with fail
      refine CM.out.mono ?_
      rintro e w4 ⟨⟨u, rfl⟩, x', hI', hn', hd', hM'⟩
      have HI2 := hideIt hI'
      have HM2 := hideIt hM'
      have HN2 : Hid (x'.wd.now ≤ 40 * ((j + 1 : Nat) : Int)) := by unfold Hid; have := hnw.out; omega
      have HD2 : Hid (x'.wd.ds.length ≤ j + 1) := by unfold Hid; have := hnd.out; omega
      clear CM g14 hI' hM' hn' hd' hg c0 c1 c2 c3 c4
      go_wp2
      go_roundw
      case rel => exact ⟨j + 1, x', by go_num, by omega, HN2.out, HD2.out, HI2.out, HM2.out⟩
      case measure => simp [intOf]; omega
    · obtain rfl : j = n := by omega
      have CS := hideIt (HMC.out.settle x wr [] hI.out (by have := HL.out; have := hnw.out; omega) hM.out)
      clear hM hI
      go_wp2_with fail
      refine CS.out.mono ?_
      rintro e w3 ⟨⟨u, rfl⟩, x3, hI3, -, hn3, -, hM3⟩
      have hg3 : Hid (x3.wd.gw = gw) := HMC.out.pg x3 hI3
      have HCK := hideIt (HC.out _ x3 hI3)
      have hcl : x3.C.length ≤ 100000000 := by have := HCK.out.2; have := HL.out; have := hnw.out; omega
      have HM3 := hideIt hM3
      obtain ⟨nc, hnc⟩ : ∃ y, x3.C.length = y := ⟨_, rfl⟩
      have HNC := hideIt hnc
      rw [hnc] at hcl
      clear CS hI3 hM3 hn3 g14 hg hnc
      go_wp2
      go_loopw [6] (fun y wr => ∃ i : Nat, y = .int .i64 i ∧ i ≤ nc ∧ Hid (M w1 gw wr (x3.as ++ []))) (fun y _ => nc - (intOf y).toNat)
      case atStart => exact ⟨0, rfl, by omega, HM3.out⟩
      case round =>
        clear HM3
        obtain ⟨i, rfl, hi, hM8⟩ := hrel
        have hi0 : (0 : Int) ≤ (i : Int) := by omega
        have g14 := hM8.out.k14
        have g12 := hM8.out.k12
        rw [hg3.out] at g14 g12
        have hbl : Hid (Below w1.heap.size w1 wr) := by have := hM8.out.bl; rw [← HGW.out] at this; exact this
        by_cases hlt2 : i < nc
        · have hi1 : (i : Int) < (nc : Int) := by omega
          obtain ⟨r, hr⟩ : ∃ r, x3.C[i]? = some r := ⟨_, List.getElem?_eq_getElem (by rw [HNC.out]; exact hlt2)⟩
          obtain ⟨g, cap3, hcv, hrg, rk', rv', rc'⟩ := hM8.out.callAt hr
          rw [HNC.out] at hcv
          rw [hcv] at g12
          have ho := HCK.out.1 r (List.mem_of_getElem? hr)
          have HRG : Hid (wr.rangeAt g (i * 18) [.string r.f, .int .i64 r.ak, .int .i64 r.ap, .int .i64 r.av, .string r.at', .int .i64 r.rv, .int .i64 r.rp, .string r.rt, .bool r.rd, .string r.nx, .bool r.en, .int .i64 r.er, .bool r.fd, .int .i64 r.va, .int .i64 r.pt, r.kv, r.vv, r.cv]) := hrg
          have CA := hideIt (again_yes r.f r.at' r.rt r.nx r.ak r.ap r.av r.rv r.rp r.er r.va r.pt r.rd r.en r.fd r.kv r.vv r.cv r.ks r.vs r.cs wr (HTB.out.below hbl.out) ho.sd rk' rv' rc' ho.kl ho.vl ho.cl)
          clear hr rk' rv' rc' ho hrg hcv
          go_upto_region 14 with fail
          go_wp2_with (refine wpList_load_mid rfl 78 _ rfl g (i * 18) rfl _ _ HRG.out Tryd.underlying78 rfl infoCallSz ?_)
          refine CA.out.mono ?_
          rintro e w7 ⟨rfl, hb7⟩
          have HM9 := hideIt (hM8.out.below hb7)
          clear CA hb7 hM8 HRG g14 g12 hbl
          go_wp2
          go_roundw
          case rel => exact ⟨i + 1, by go_num, by omega, HM9.out⟩
          case measure => simp [intOf]; omega
        · obtain rfl : i = nc := by omega
          have HB9 := hideIt (step HB1.out hbl.out)
          obtain ⟨ca, cc, hcv⟩ : ∃ ca cc, x3.cv = .slice ca i cc := by
            have h9 := (hM8.out.holds (.row 78 18 x3.cv x3.C.length (x3.C.flatMap Rc.cells)) (by rw [List.append_nil]; exact List.mem_append.2 (Or.inr List.mem_cons_self)))
            rw [HNC.out] at h9
            exact As.form0 h9
          rw [hcv] at g12
          clear hM8 hbl hcv
          go_wp2
          go_ret
          exact ⟨rfl, HB9.out⟩
end Go.Proofs.YtajobgmnmbnhiaaDoor.Sap
