/- WHAT IS PROVED HERE: saplingkeep's Pieces answers true over any program that keeps an invariant of the world (Good) which lets each piece of a Scan be what the map had. Conditions: those of Good; the script has at most a million turns. -/
import Derived.Test.YtajobgmnmbnhiaaDoorXA5N1
import Derived.Test.YtajobgmnmbnhiaaDoorXJ2P3
namespace Go.Proofs.YtajobgmnmbnhiaaDoor.Sap
open Go.RowKit

/-- The answer of a Scan that has ended: m + 1 pieces; below b it has looked; sn: how many keys were seen ahead of each piece. -/
structure PcsOk0 (x : Wd) (d : Dd) (m : Nat) (bel pts : List Int) (b : Int) (sn : Nat → Nat) : Prop where
  er : d.er = 0
  fd : d.fd = decide (0 < d.ks.length)
  va : d.va = d.ks.length
  cs : d.cs = bel.zip pts
  bl : bel.length = m + 1
  pl : pts.length = m + 1
  mm : m ≤ 1000000
  ks : d.ks.length = d.vs.length
  s0 : sn 0 = 0
  sE : sn (m + 1) = d.ks.length
  fE : fromV bel d.key (m + 1) = b
  pt : pts.getLast? = some d.pt
  pa : ∀ i, i < m + 1 → ∃ p be k, ∀ o', o'.Perm (tkL x.ds) → Srt o' → PcR (tabO (ahead o' (d.ts[p]?.getD 0))).1 (tabO (ahead o' (d.ts[p]?.getD 0))).2 d.ks d.vs d.key d.v bel pts d.ts sn i p be k
  ri : ∀ i, i + 1 < d.ks.length → d.ks[i]?.getD 0 < d.ks[i + 1]?.getD 0
  bb : d.key + 1 ≤ b ∧ b ≤ d.v + 1
  h12 : d.ks.length ≤ 12
  nd : (d.ks.length = 12 ∧ b = d.ks.getLast?.getD 0 + 1) ∨ (d.ks.length < 12 ∧ b = d.v + 1)
  v0 : 0 ≤ d.v
  v1 : d.v ≤ 9999
  k0 : 0 ≤ d.key
def PcsOk (x : Wd) (d : Dd) : Prop := ∃ m bel pts b sn, PcsOk0 x d m bel pts b sn

end Go.Proofs.YtajobgmnmbnhiaaDoor.Sap

/- WHAT IS PROVED HERE: saplingkeep's levels, ask and Calm over any program that keeps an invariant of the world (Good), over which a Get that moves alone has as many accesses as there are levels. Conditions: those of Good, and what the Get does (AskOk); the script has at most a million turns. -/
namespace Go.Proofs.YtajobgmnmbnhiaaDoor.Sap
open Go.RowKit

/-- The pages that a world has in memory. -/
theorem M.pages {w0 W : World} {B : Nat} {x : Wd} {fr : List As} (h : M w0 B W (x.as ++ fr)) : PgR x.gw x.tg x.tc x.ug x.uc x.T x.U W := by
  refine ⟨h.cell (i := 0) rfl 0 _ rfl, h.cell (i := 0) rfl 1 _ rfl, fun p hp => ?_⟩
  have h1 := (h.get (i := 3) rfl).own.1
  have h2 := (h.get (i := 4) rfl).own.1
  simp [strs] at h1
  simp [bools] at h2
  have ht : x.T[p]? = some (x.T[p]'(by omega)) := List.getElem?_eq_getElem (by omega)
  have hu : x.U[p]? = some (x.U[p]'(by omega)) := List.getElem?_eq_getElem (by omega)
  exact ⟨_, _, ht, hu, h.rowCell (i := 3) rfl p _ (strs_get ht), h.rowCell (i := 4) rfl p _ (bools_get hu)⟩

set_option maxRecDepth 100000 in
set_option maxHeartbeats 3200000 in
theorem levels_any (gw tg tc ug uc : Nat) (T : List ByteArray) (U : List Bool) (n : Nd) (w : World) (h : PgR gw tg tc ug uc T U w) (hs : Says T U 0 n) :
    Calls Tryd.prog 39 #[.pointer (some ⟨gw, 0, none⟩)] w fun e w' => e = .returned (.int .i64 (n.lv + 1)) ∧ Below w.heap.size w w' := by
  obtain ⟨hp, hu, t, ht, hn⟩ := hs
  obtain ⟨c0, c1, c2⟩ := h
  obtain ⟨t', b, a1, a2, a3, a4⟩ := c2 0 hp
  rw [ht] at a1; cases a1
  have hsz := size_of_unp ⟨n, hn⟩
  have hlv : 0 ≤ n.lv ∧ n.lv ≤ 9 := by
    have := hn.1
    simp only [rightB, Bool.and_eq_true, decide_eq_true_eq] at this
    omega
  have HN := hideIt hn
  clear c1 c2 a4 a2 ht hu hn
  go_enter Tryd.func39, Tryd.ntmps39
  go_wp2_with fail
  refine (unpack_any t _ (by omega)).mono ?_
  rintro e w2 ⟨hR, hb⟩
  rcases hR with ⟨n', kv, vv, hn', hO, rfl⟩ | ⟨hno, -⟩
  case inr => exact absurd HN.out (hno n)
  obtain rfl : n' = n := hn'.uniq HN.out
  have A1 := hO.m hb
  obtain ⟨ka, kc, rfl⟩ := As.form0 (A1.get (i := 0) rfl)
  obtain ⟨va, vc, rfl⟩ := As.form0 (A1.get (i := 1) rfl)
  have HB := hideIt (step hb ((Below.refl w2.heap.size w2).alloc (Nat.le_refl _) (.cells #[.int .i64 n'.lv, .int .i64 n'.lk, .int .i64 n'.hi, .slice ka n'.ks.length kc, .slice va n'.vs.length vc] 24)))
  clear hO hb hn' A1 a3 c0 HN
  go_wp2
  go_ret
  exact ⟨rfl, HB.out⟩

/-- What a Get of a key does that moves alone over a world in which nobody is under way. -/
structure AskOk (Inv : Nat → Wd → Prop) (Gb : Nat → Int → Wd → Prop) (w0 : World) : Prop where
  bg : ∀ x (key : Int) W (fr : List As), Inv w0.heap.size x → (∀ c, c < 64 → x.bs[c]? = some (-1)) → x.now ≤ 89000000 → x.ds.length ≤ 89000000 → 1 ≤ key → key ≤ 9999 → M w0 w0.heap.size W (x.as ++ fr) → Calls Tryd.prog 55 #[.pointer (some ⟨w0.heap.size, 0, none⟩), .int .i64 0, .agg #[.int .i64 1, .int .i64 key, .int .i64 0]] W fun e w' => (∃ u, e = .returned u) ∧ ∃ x', Gb w0.heap.size key x' ∧ M w0 w0.heap.size w' (x'.as ++ fr)
  pb : ∀ x key, Gb w0.heap.size key x → x.gw = w0.heap.size
  al : ∀ x (key : Int) W (fr : List As), Gb w0.heap.size key x → M w0 w0.heap.size W (x.as ++ fr) → Calls Tryd.prog 37 #[.pointer (some ⟨w0.heap.size, 0, none⟩), .int .i64 0] W fun e w' => (∃ u, e = .returned u) ∧ ∃ (x' : Wd) (n : Nat) (d : Dd) (nd : Nd), x'.gw = w0.heap.size ∧ x'.ds.length = n + 1 ∧ n ≤ 90000000 ∧ x'.ds[n]? = some d ∧ d.er = 0 ∧ Says x'.T x'.U 0 nd ∧ (x'.rf = true ∨ ((d.ts.length : Int) = nd.lv + 1 ∧ d.pt = nd.lv)) ∧ M w0 w0.heap.size w' (x'.as ++ fr)

/-- What ask leaves. -/
def AskQ (gw : Nat) (x : Wd) (d : Dd) : Prop := ∃ (n : Nat) (nd : Nd), x.gw = gw ∧ x.ds[n]? = some d ∧ d.er = 0 ∧ Says x.T x.U 0 nd ∧ (x.rf = true ∨ ((d.ts.length : Int) = nd.lv + 1 ∧ d.pt = nd.lv))

set_option maxRecDepth 100000 in
set_option maxHeartbeats 6400000 in
theorem ask_gen (Inv : Nat → Wd → Prop) (Gb : Nat → Int → Wd → Prop) (w0 w : World) (G : AskOk Inv Gb w0) (x : Wd) (key : Int) (fr : List As) (hI : Inv w0.heap.size x) (_hg : x.gw = w0.heap.size) (hid : ∀ c, c < 64 → x.bs[c]? = some (-1)) (hn : x.now ≤ 89000000) (hd : x.ds.length ≤ 89000000) (hk0 : 1 ≤ key) (hk1 : key ≤ 9999) (h : M w0 w0.heap.size w (x.as ++ fr)) :
    Calls Tryd.prog 38 #[.pointer (some ⟨w0.heap.size, 0, none⟩), .agg #[.int .i64 1, .int .i64 key, .int .i64 0]] w fun e w' => ∃ x' d, e = .returned (.pointer (some ⟨d.gd, 0, none⟩)) ∧ AskQ w0.heap.size x' d ∧ M w0 w0.heap.size w' (x'.as ++ fr) := by
  have A0 := hideIt (h.allocd (.cells #[.int .i64 1, .int .i64 key, .int .i64 0] 37))
  have CB := hideIt (fun W hM => G.bg x key W fr hI hid hn hd hk0 hk1 hM)
  have HG := hideIt G
  obtain ⟨gw, hgw⟩ : ∃ g, w0.heap.size = g := ⟨_, rfl⟩
  have HGW := hideIt hgw
  rw [hgw] at A0 CB ⊢
  clear h hI _hg hid hn hd G hgw
  go_enter Tryd.func38, Tryd.ntmps38
  go_wp2_with fail
  refine (CB.out _ A0.out).mono ?_
  rintro e w2 ⟨⟨u, rfl⟩, x2, hG2, hM2⟩
  have hg2 : Hid (x2.gw = gw) := by have := HG.out.pb x2 key (by rw [HGW.out]; exact hG2); rw [HGW.out] at this; exact this
  have g14 := hM2.cell (i := 0) rfl 14 (.bool false) rfl
  rw [hg2.out] at g14
  have CA := hideIt (HG.out.al x2 key w2 fr (by rw [HGW.out]; exact hG2) (by rw [HGW.out]; exact hM2))
  rw [HGW.out] at CA
  clear CB A0 hG2 hM2
  go_wp2_with fail
  refine CA.out.mono ?_
  rintro e w3 ⟨⟨u, rfl⟩, x3, n, d, nd, hg3, hn3, hn1, hd3, her, hs, hq, hM3⟩
  have HQ : Hid (AskQ gw x3 d) := ⟨n, nd, hg3, hd3, her, hs, hq⟩
  have HM3 := hideIt hM3
  obtain ⟨dg, dc, g3, c0, -⟩ := M.deedAt hM3 hd3 hn3
  rw [hg3] at g3
  have hn0 : (0 : Int) ≤ (n : Int) := by omega
  obtain ⟨gd, hgd⟩ : ∃ y, d.gd = y := ⟨_, rfl⟩
  have HGD := hideIt hgd
  rw [hgd] at c0
  clear CA hM3 hd3 her hs hq hg3 hg2 hgd hn3 g14
  go_wp2
  go_quiet (fail)
  go_wp2
  go_ret
  exact ⟨x3, d, by rw [HGD.out]; rfl, HQ.out, HM3.out.drewN _⟩
end Go.Proofs.YtajobgmnmbnhiaaDoor.Sap

/- WHAT IS PROVED HERE: saplingkeep's says of a free page, fitted, along and placed. Conditions: named at each theorem. -/
namespace Go.Proofs.YtajobgmnmbnhiaaDoor.Sap
open Go.RowKit

set_option maxRecDepth 100000 in
set_option maxHeartbeats 3200000 in
theorem says_no (gw tg tc ug uc p : Nat) (T : List ByteArray) (U : List Bool) (w : World) (h : PgR gw tg tc ug uc T U w) (hp : p < 64) (hu : U[p]? = some false) :
    Calls Tryd.prog 57 #[.pointer (some ⟨gw, 0, none⟩), .int .i64 p] w fun e w' => e = .returned (.tuple #[.agg #[.int .i64 0, .int .i64 0, .int .i64 0, .slice none 0 0, .slice none 0 0], .bool false]) ∧ Below w.heap.size w w' := by
  obtain ⟨c0, c1, c2⟩ := h
  obtain ⟨t', b, a1, a2, a3, a4⟩ := c2 p hp
  rw [hu] at a2; cases a2
  have A0 := hideIt ((M.start w).alloc #[.int .i64 0, .int .i64 0, .int .i64 0, .slice none 0 0, .slice none 0 0] 24)
  obtain ⟨W, hW⟩ : ∃ W, w.alloc (.cells #[.int .i64 0, .int .i64 0, .int .i64 0, .slice none 0 0, .slice none 0 0] 24) = W := ⟨_, rfl⟩
  have HW := hideIt hW
  rw [hW] at A0
  have k1 := hideIt (cell_below A0.out.bl _ _ c1)
  have k4 := hideIt (cell_below A0.out.bl _ _ a4)
  obtain ⟨g0, hg0⟩ : ∃ g, w.heap.size = g := ⟨_, rfl⟩
  have HG := hideIt hg0
  rw [hg0] at A0
  clear c0 c1 c2 a3 a4 hu hW hg0
  go_enter Tryd.func57, Tryd.ntmps57
  go_wp2_with fail
  rw [HW.out, HG.out]
  refine (there_any gw ug uc p false _ k1.out k4.out hp).mono ?_
  rintro e w1 ⟨rfl, rfl⟩
  have r0 := A0.out.cell (i := 0) rfl 0 (.int .i64 0) rfl
  have r1 := A0.out.cell (i := 0) rfl 1 (.int .i64 0) rfl
  have r2 := A0.out.cell (i := 0) rfl 2 (.int .i64 0) rfl
  have r3 := A0.out.cell (i := 0) rfl 3 (.slice none 0 0) rfl
  have r4 := A0.out.cell (i := 0) rfl 4 (.slice none 0 0) rfl
  have f0 := A0.out.free (i := 0) rfl 0
  have f1 := A0.out.free (i := 0) rfl 1
  have f2 := A0.out.free (i := 0) rfl 2
  have f3 := A0.out.free (i := 0) rfl 3
  have f4 := A0.out.free (i := 0) rfl 4
  have S5 := hideIt (A0.out.store5 (i := 0) rfl (.int .i64 0) (.int .i64 0) (.int .i64 0) (.slice none 0 0) (.slice none 0 0))
  clear HW k1 k4
  go_wp2
  refine bodyPost_ret (v := .tuple #[.agg #[.int .i64 0, .int .i64 0, .int .i64 0, .slice none 0 0, .slice none 0 0], .bool false]) (by simp [results, Tryd.results57, go_sem, *]) rfl ⟨rfl, ?_⟩
  rw [HG.out]
  exact S5.out.bl

set_option maxRecDepth 100000 in
set_option maxHeartbeats 3200000 in
theorem fitted_yes (gw tg tc ug uc p : Nat) (T : List ByteArray) (U : List Bool) (n : Nd) (fr hg : Int) (w : World) (h : PgR gw tg tc ug uc T U w) (hs : Says T U p n) (hh : hg < n.hi) (hk : n.ks = [] ∨ fr ≤ n.ks[0]?.getD 0) :
    Calls Tryd.prog 102 #[.pointer (some ⟨gw, 0, none⟩), .int .i64 p, .int .i64 n.lv, .int .i64 fr, .int .i64 hg] w fun e w' => e = .returned (.bool true) ∧ Below w.heap.size w w' := by
  have C := hideIt (says_yes gw tg tc ug uc p T U n w h hs)
  have hlv : (n.lv != n.lv) = false := by simp
  have hd : decide (n.hi ≤ hg) = false := by rw [decide_eq_false_iff_not]; omega
  have HK := hideIt hk
  clear h hs hk
  go_enter Tryd.func102, Tryd.ntmps102
  go_wp2_with fail
  refine C.out.mono ?_
  rintro e w1 ⟨kv, vv, rfl, hM⟩
  obtain ⟨ka, kc, rfl⟩ := As.form0 (hM.get (i := 0) rfl)
  obtain ⟨va, vc, rfl⟩ := As.form0 (hM.get (i := 1) rfl)
  have A1 := hideIt (hM.alloc #[.int .i64 n.lv, .int .i64 n.lk, .int .i64 n.hi, .slice ka n.ks.length kc, .slice va n.vs.length vc] 24)
  have RK := owns_rd (hM.get (i := 0) rfl).own
  clear C
  rcases Nat.eq_zero_or_pos n.ks.length with hz | hz
  · have hz1 : ((n.ks.length : Int) == 0) = true := by simp [hz]
    have hz2 : (n.ks.length == 0) = true := by simp [hz]
    clear hz hM RK
    go_wp2
    go_ret
    exact ⟨rfl, A1.out.bl⟩
  · have hz1 : ((n.ks.length : Int) == 0) = false := by rw [beq_eq_false_iff_ne]; omega
    have hz2 : (n.ks.length == 0) = false := by rw [beq_eq_false_iff_ne]; omega
    have hz3 : (0 : Int) < (n.ks.length : Int) := by omega
    obtain ⟨b1, o1, e1, -, x1⟩ := RK.elem 0 hz
    subst e1
    have y1 := x1 _ (Below.refl _ _)
    simp only [Nat.add_zero] at y1
    obtain ⟨a, ha⟩ : ∃ y, n.ks[0]?.getD 0 = y := ⟨_, rfl⟩
    rw [ha] at y1
    have hle : fr ≤ a := by
      rcases HK.out with h1 | h1
      · rw [h1] at hz; simp at hz
      · rw [← ha]; exact h1
    have hlt := lt_of_cell y1
    clear hM RK x1 ha hz
    go_wp2
    go_ret
    exact ⟨rfl, A1.out.bl⟩

/-- Pages, each linked to the next, the last to none. -/
def Chain (T : List ByteArray) (U : List Bool) (ps : List Nat) : Prop := ∀ i p, ps[i]? = some p → ∃ n, Says T U p n ∧ n.lk = (ps[i + 1]?.map Int.ofNat).getD (-1)
def natI (ps : List Nat) : List Int := ps.map Int.ofNat

set_option maxRecDepth 100000 in
set_option maxHeartbeats 3200000 in
theorem along_yes (gw tg tc ug uc p0 : Nat) (T : List ByteArray) (U : List Bool) (ps : List Nat) (w : World) (h : PgR gw tg tc ug uc T U w) (hc : Chain T U ps) (h0 : ps[0]? = some p0) (hl : ps.length ≤ 64) :
    Calls Tryd.prog 113 #[.pointer (some ⟨gw, 0, none⟩), .int .i64 p0] w fun e w' => ∃ ov, e = .returned ov ∧ M w w.heap.size w' [.row 3 1 ov ps.length (ints (natI ps))] := by
  obtain ⟨i0, hi0, hz0, hz1, hz2⟩ := info_parts infoInt
  obtain ⟨m, hm⟩ : ∃ m, ps.length = m := ⟨_, rfl⟩
  have HM := hideIt hm
  have HP := hideIt h
  have HC := hideIt hc
  have H0 := hideIt h0
  have A0 := hideIt (M.snocNil (e := 3) (z := 1) (M.start w))
  rw [hm] at hl
  clear h hc h0 hm
  go_enter Tryd.func113, Tryd.ntmps113
  go_wp2
  go_loopw [1, 5] (fun vp ov wr => ∃ (j : Nat) (q : Int), j ≤ m ∧ vp = .int .i64 q ∧ Hid (q = (ps[j]?.map Int.ofNat).getD (-1)) ∧ Hid (M w w.heap.size wr [.row 3 1 ov j (ints (natI (ps.take j)))])) (fun _ ov _ => 64 - (match ov with | .slice _ l _ => l | _ => 0))
  case atStart => exact ⟨0, p0, by omega, rfl, by unfold Hid; rw [H0.out]; rfl, A0.out⟩
  case round =>
    clear A0
    obtain ⟨j, q, hj, rfl, hq, hM⟩ := hrel
    obtain ⟨oa, oc, rfl⟩ := As.form0 (hM.out.get (i := 0) rfl)
    by_cases hlt : j < m
    · obtain ⟨p, hp⟩ : ∃ p, ps[j]? = some p := ⟨_, List.getElem?_eq_getElem (by rw [HM.out]; exact hlt)⟩
      obtain ⟨n, hs, hlk⟩ := HC.out j p hp
      have hqp : q = (p : Int) := by rw [hq.out, hp]; rfl
      subst hqp
      have hq0 : (0 : Int) ≤ (p : Int) := by omega
      have hj64 : (j : Int) < 64 := by omega
      have hj64' : j < 64 := by omega
      have CS := hideIt (says_yes gw tg tc ug uc p T U n wr (HP.out.below hM.out.bl) hs)
      have HLK := hideIt hlk
      have HTK : Hid (ints (natI (ps.take (j + 1))) = ints (natI (ps.take j)) ++ [.int .i64 p]) := by
        unfold Hid natI; rw [List.take_add_one, hp, Option.toList_some, List.map_append, ints, ints, List.map_append]; rfl
      clear hs hlk hp
      go_wp2_with fail
      refine CS.out.mono ?_
      rintro e w1 ⟨kv, vv, rfl, hM1⟩
      have hM2 := hideIt ((hM.out.join hM1).sub (l' := [_]) (List.sublist_append_right _ _))
      obtain ⟨ka, kc, rfl⟩ := As.form0 (hM1.get (i := 0) rfl)
      obtain ⟨va, vc, rfl⟩ := As.form0 (hM1.get (i := 1) rfl)
      have hM3 := hideIt (hM2.out.alloc #[.int .i64 n.lv, .int .i64 n.lk, .int .i64 n.hi, .slice ka n.ks.length kc, .slice va n.vs.length vc] 24)
      clear CS hM1 hM
      go_wp2_with (at_builtin; refine wpList_append_lies _ rfl _ _ 22 rfl w.heap.size 3 i0 (.int .i64 0) 1 8 Tryd.underlying22 hi0 hz0 hz1 hz2 rfl (by decide) _ j (ints (natI (ps.take j))) rfl (World.ownsRow.alloc (hM3.out.get (i := 1) rfl).own _) ⟨_, 0, none⟩ 1 1 [.int .i64 p] rfl rfl (by have := news_one (w1.alloc (.cells #[.int .i64 n.lv, .int .i64 n.lk, .int .i64 n.hi, .slice ka n.ks.length kc, .slice va n.vs.length vc] 24)) (.int .i64 p) 3; simpa using this) (by simp [Value.oneCell']) (by omega) (by unfold maxLen; omega) (by omega) (by have := hM3.out.sz; simp at this ⊢; omega) _ rfl ?_; intro g1 cap1 w5 hown hgrow hat hlt1; rw [← HTK.out] at hown; have H1 := hideIt ((hM3.out.allocd _).lies (i := 1) rfl hown hgrow hat); clear hown hgrow hat; have n1 := H1.out.cell (i := 0) rfl 1 (.int .i64 n.lk) rfl)
      go_roundw
      case rel => exact ⟨j + 1, n.lk, by omega, rfl, HLK.out, H1.out.sub (List.sublist_cons_self _ _)⟩
      case measure => simp; omega
    · obtain rfl : j = m := by omega
      have hqm : q = -1 := by rw [hq.out, List.getElem?_eq_none (by rw [HM.out]; omega)]; rfl
      subst hqm
      have hT : Hid (ps.take j = ps) := List.take_of_length_le (by rw [HM.out]; omega)
      rw [hT.out] at hM
      have hM2 : Hid (M w w.heap.size wr [.row 3 1 (.slice oa j oc) ps.length (ints (natI ps))]) := by unfold Hid; rw [HM.out]; exact hM.out
      clear hM
      go_wp2
      go_ret
      exact ⟨_, rfl, hM2.out⟩
end Go.Proofs.YtajobgmnmbnhiaaDoor.Sap
