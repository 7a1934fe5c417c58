/- WHAT IS PROVED HERE: saplingkeep.Finds answers true. Conditions: the table of powers of ten is laid; the numbers are ints. -/
import Derived.Test.YtajobgmnmbnhiaaGreatDoorXE1L4
import Derived.Test.YtajobgmnmbnhiaaGreatDoorXL8S6
import Derived.Test.YtajobgmnmbnhiaaGreatDoorXS7E2
import Derived.Test.YtajobgmnmbnhiaaGreatDoorB6
import Derived.Test.YtajobgmnmbnhiaaGreatDoorT9
namespace Go.Proofs.YtajobgmnmbnhiaaGreatDoor.Sap
open Go.RowKit

theorem up_at {p0 p : Nat} (h : p < p0) : (Up p0)[p]? = some true := by
  unfold Up
  rw [List.getElem?_append_left (by simpa using h), List.getElem?_replicate, if_pos h]
theorem up_off {p0 p : Nat} (h : p0 ≤ p) (hp : p < 64) : (Up p0)[p]? = some false := by
  unfold Up
  rw [List.getElem?_append_right (by simpa using h), List.getElem?_replicate, List.length_replicate, if_pos (by omega)]
theorem leads_of {T : List ByteArray} {p0 : Nat} {P : Nat → St → Prop} {Q : Nat → Out → Prop} (hg : Goes T p0 P Q) (h64 : p0 ≤ 64) : Leads T (Up p0) P Q := by
  intro j s f hP hf
  obtain ⟨hj, hok, p, n, t, e1, e2, e3, e4, e5, e6⟩ := hg j s hP
  refine ⟨by omega, ⟨hok.1, hok.2.1⟩, p, t, e1, by omega, up_at e2, e3, ?_⟩
  rcases e6 with ⟨s', ho, hP'⟩ | ⟨fd, va, pt, ks, vs, cs, ho, hQ⟩
  · refine Or.inl ⟨s', hP', fun W hW => ?_⟩
    have := tell_any s n f t 0 W hW hf hok.1 e4 e5 hok.2.1 hok.2.2
    rw [ho] at this
    exact this
  · refine Or.inr ⟨fd, va, pt, ks, vs, cs, hQ, fun W hW => ?_⟩
    have := tell_any s n f t 0 W hW hf hok.1 e4 e5 hok.2.1 hok.2.2
    rw [ho] at this
    exact this
theorem get_start {T : List ByteArray} {p0 : Nat} {KV : List (Int × Int)} {rk : Nat → Nat} {lo : Nat → Int} {key : Int} (hT : Tree T p0 KV rk lo) (hk : 1 ≤ key) : GeP p0 rk lo key 0 (st0 1 key 0) := by
  have := hT.pos
  have := hT.rk 0 (by omega)
  exact ⟨0, rfl, by omega, by rw [hT.lo0]; omega, by omega⟩
theorem filter_rng_self (Z : List (Int × Int)) (a : Int) : Z.filter (rng a a) = [] := by
  refine List.filter_eq_nil_iff.2 fun x _ => ?_
  simp [rng]
theorem scan_start {T : List ByteArray} {p0 : Nat} {K V : List Int} {rk : Nat → Nat} {lo : Nat → Int} {key val : Int} (hT : Tree T p0 (K.zip V) rk lo) (hk : 1 ≤ key) : ScP p0 K V rk lo key val 0 (st0 4 key val) := by
  have := hT.pos
  have := hT.rk 0 (by omega)
  refine ⟨rfl, rfl, rfl, rfl, ⟨0, rfl, by omega, ?_, by omega⟩, rfl, by simp [st0], ?_, by simp [st0], rfl, by simp [st0], rfl, rfl, ⟨rfl, rfl, rfl⟩, ⟨rfl, rfl⟩, ⟨rfl, rfl, rfl, rfl⟩⟩
  · rw [hT.lo0]; show 0 ≤ key; omega
  · show [] = (K.zip V).filter (rng key key)
    rw [filter_rng_self]
theorem cutc_at (cs : List (Int × Int)) (i : Nat) (c : Int × Int) (h : cs[i]? = some c) : (cutc cs)[i * 2]? = some (.int .i64 c.1) ∧ (cutc cs)[i * 2 + 1]? = some (.int .i64 c.2) := by
  induction cs generalizing i with
  | nil => cases h
  | cons a r ih =>
    have e : cutc (a :: r) = .int .i64 a.1 :: .int .i64 a.2 :: cutc r := rfl
    rw [e]
    cases i with
    | zero => cases h; exact ⟨rfl, rfl⟩
    | succ i =>
      have := ih i (by simpa using h)
      rw [show (i + 1) * 2 = i * 2 + 1 + 1 by omega]
      simpa using this
/-- The world's part, put in order for an operation to begin. -/
theorem M.fdIn {w0 w : World} {B : Nat} {o g t u v b : As} {fr : List As} {e : TypeId} {z : Nat} (h : M w0 B w (o :: g :: t :: u :: v :: b :: fr)) : M w0 B w (g :: b :: .row e z (.slice none 0 0) 0 [] :: t :: u :: v :: o :: fr) := by
  have h1 : M w0 B w (g :: b :: t :: u :: v :: o :: fr) := by
    refine h.perm (List.Perm.append_right (l₁ := [g, b, t, u, v, o]) (l₂ := [o, g, t, u, v, b]) fr ?_)
    refine (List.perm_append_comm (l₁ := [g, b, t, u, v]) (l₂ := [o])).trans (List.Perm.cons o (List.Perm.cons g ?_))
    exact List.perm_append_comm (l₁ := [b]) (l₂ := [t, u, v])
  exact M.nilAt (a := [g, b]) h1
theorem M.fdAt {w0 w : World} {B : Nat} {a b : As} {fr : List As} {e : TypeId} {z : Nat} (h : M w0 B w (a :: b :: fr)) : M w0 B w (a :: b :: .row e z (.slice none 0 0) 0 [] :: fr) := M.nilAt (a := [a, b]) h
theorem M.fdNx {w0 w : World} {B : Nat} {a1 a2 a3 a4 a5 a6 g b d t u v : As} {fr : List As} (h : M w0 B w (a1 :: a2 :: a3 :: a4 :: a5 :: a6 :: g :: b :: d :: t :: u :: v :: fr)) : M w0 B w (g :: b :: d :: t :: u :: v :: a1 :: a2 :: a3 :: a4 :: a5 :: a6 :: fr) :=
  h.perm (List.Perm.append_right (l₁ := [g, b, d, t, u, v] ++ [a1, a2, a3, a4, a5, a6]) (l₂ := [a1, a2, a3, a4, a5, a6] ++ [g, b, d, t, u, v]) fr List.perm_append_comm)

theorem owns_rdN {w : World} {B n : Nat} {v : Value} {xs : List Int} (hn : xs.length = n) (h : w.ownsRow B 3 1 v n (ints xs)) : Rd w v xs := by
  subst hn; exact owns_rd h
theorem firstNe : ((⟨#[48, 45, 45, 45, 45, 45, 45]⟩ : ByteArray) == ⟨#[]⟩) = false := by decide
/-- What is known of the pages that grown has made. -/
def GF (T : List ByteArray) (p0 : Nat) (K V : List Int) : Prop := T.length = 64 ∧ p0 ≤ 64 ∧ keysOk 10000 1 K = true ∧ K.length = V.length ∧ K.length ≤ 120 ∧ ∃ rk lo, Tree T p0 (K.zip V) rk lo
/-- What grown answers, its values apart. -/
def Gr2 (nz : Prop) (w w' : World) (e : Ending) : Prop := ∃ p q, e = .returned (.tuple #[p, q]) ∧ ((¬ nz ∧ p = .pointer none ∧ q = .pointer none ∧ Below w.heap.size w w') ∨ ∃ gw gt tv uv vv bv tk tvv T p0 K V, p = .pointer (some ⟨gw, 0, none⟩) ∧ q = .pointer (some ⟨gt, 0, none⟩) ∧ M w w.heap.size w' (SP gw gt tv uv vv bv tk tvv T (Up p0) K V) ∧ GF T p0 K V)
theorem gr2_of {nz : Prop} {w w' : World} {e : Ending} (h : GrownR nz w w' e) : Gr2 nz w w' e := by
  rcases h with ⟨h1, h2, h3⟩ | ⟨gw, gt, tv, uv, vv, bv, tk, tvv, T, p0, K, V, h1, h2, h3⟩
  · exact ⟨_, _, h2, Or.inl ⟨h1, rfl, rfl, h3⟩⟩
  · exact ⟨_, _, h1, Or.inr ⟨gw, gt, tv, uv, vv, bv, tk, tvv, T, p0, K, V, rfl, rfl, h2, h3⟩⟩
theorem M.onto {w w2 w3 : World} {l : List As} (hb : Below w.heap.size w w2) (h : M w2 w2.heap.size w3 l) : M w w.heap.size w3 l := by
  have := ((M.start w).below hb).join h
  rwa [List.append_nil] at this
theorem rKd0 : rKd 0 = 1 := by decide
theorem rKd3 : rKd 3 = 4 := by decide
theorem rVal0 (key : Int) : rVal 0 key 0 = 0 := by unfold rVal; rw [rKd0]; rfl
theorem rKey_bd (key : Int) : 1 ≤ rKey key ∧ rKey key ≤ 9999 := by
  have := pickV_bd key 9999 (by omega)
  unfold rKey; omega
theorem rVal3_bd (key v : Int) : rKey key ≤ rVal 3 key v ∧ rVal 3 key v ≤ 9999 := by
  have h1 := rKey_bd key
  have := pickV_bd v (9999 - rKey key + 1) (by omega)
  unfold rVal
  rw [rKd3, if_neg (by omega), if_pos rfl]
  omega
theorem busy0 (n : Nat) : (List.replicate 64 (Value.int .i64 (-1))).set 0 (.int .i64 n) = .int .i64 (n : Int) :: List.replicate 63 (.int .i64 (-1)) := rfl

set_option maxRecDepth 100000 in
set_option maxHeartbeats 6400000 in
theorem finds_any (rv sv : Value) (rs sz : List Int) (key up : Int) (w : World) (htab : Tab w) (hr : Rd w rv rs) (hs : Rd w sv sz) (hrl : rs.length ≤ 17592186044416) (hsl : sz.length ≤ 17592186044416) (hrb : ∀ x ∈ rs, I64 x) (hsb : ∀ x ∈ sz, I64 x) (hkey : I64 key) (hup : I64 up) :
    Calls Tryz.prog 3 #[rv, sv, .int .i64 key, .int .i64 up] w fun e w' => e = .returned (.bool true) ∧ Below w.heap.size w w' := by
  have CG := hideIt (grown_any rv sv rs sz w htab hr hs hrl hsl hrb hsb)
  have CG2 : Hid (∀ W, Below w.heap.size w W → Calls Tryz.prog 8 #[.slice none 0 0, .slice none 0 0] W fun e w' => GrownR (([] : List Int) = []) W w' e) := fun W hb => grown_any _ _ [] [] W (htab.below hb) (rd_nil W) (rd_nil W) (by simp) (by simp) (by simp) (by simp)
  have HT := hideIt htab
  have HKY := hideIt hkey
  have HUP := hideIt hup
  have hne := firstNe
  clear htab hr hs hrl hsl hrb hsb hkey hup
  go_enter Tryz.func3, Tryz.ntmps3
  go_wp2_with fail
  refine (first_any w).mono ?_
  rintro e w1 ⟨rfl, rfl⟩
  go_wp2_with fail
  refine CG.out.mono ?_
  intro e w2 hG
  obtain ⟨pa, pb, rfl, hG2⟩ := gr2_of hG
  have HG := hideIt hG2
  clear hG hG2 CG
  rcases HG.out with ⟨-, rfl, rfl, hb⟩ | ⟨gw, gt, tv, uv, vv, bv, tk, tvv, T, p0, K, V, rfl, rfl, hM0, hF0⟩
  · have HB := hideIt hb
    clear HG hb
    go_wp2_with fail
    refine (CG2.out _ HB.out).mono ?_
    intro e w3 hG3
    obtain ⟨pa, pb, rfl, hG4⟩ := gr2_of hG3
    clear hG3
    rcases hG4 with ⟨h1, -⟩ | ⟨gw, gt, tv, uv, vv, bv, tk, tvv, T, p0, K, V, rfl, rfl, hM0, hF0⟩
    · exact absurd trivial h1
    have hM := hideIt (M.onto HB.out hM0)
    have hF := hideIt hF0
    clear hM0 hF0 HB CG2
    obtain ⟨tg, tc, rfl⟩ := As.form (hM.out.get (i := 1) rfl) (by omega)
    obtain ⟨ug, uc, rfl⟩ := As.form (hM.out.get (i := 2) rfl) (by omega)
    obtain ⟨vg, vc, rfl⟩ := As.form (hM.out.get (i := 3) rfl) (by omega)
    obtain ⟨bg, bc, rfl⟩ := As.form (hM.out.get (i := 4) rfl) (by omega)
    have hp64 : p0 ≤ 64 := hF.out.2.1
    have g1 := hM.out.cell (i := 0) rfl 1 (.slice (some ⟨ug, 0, none⟩) 64 uc) rfl
    go_wp2
    go_loopw [12, 13] (fun n i wr => ∃ k c : Nat, k ≤ 64 ∧ c ≤ 64 ∧ Hid (c = min k p0) ∧ i = .int .i64 k ∧ n = .int .i64 c ∧ wr = w3) (fun _ i _ => 64 - (intOf i).toNat)
    case atStart => exact ⟨0, 0, by omega, by omega, by unfold Hid; omega, rfl, rfl, rfl⟩
    case round =>
      obtain ⟨k, c, hk, hc, hck, rfl, rfl, rfl⟩ := hrel
      by_cases hlt : k < 64
      · have hkk : (0 : Int) ≤ (k : Int) := by omega
        have hkl : (k : Int) < 64 := by omega
        by_cases hkp : k < p0
        · have u1 := hM.out.rowCell (i := 2) rfl k (.bool true) (by unfold bools; rw [List.getElem?_map, up_at hkp]; rfl)
          have HN : Hid (c + 1 = min (k + 1) p0) := by have := hck.out; unfold Hid; omega
          have hc64 : c + 1 ≤ 64 := by have := HN.out; omega
          clear hck
          go_wp2
          go_roundw
          case rel => exact ⟨k + 1, c + 1, by omega, hc64, HN.out, by go_num, by go_num, by trivial⟩
          case measure => simp [intOf]; omega
        · have u1 := hM.out.rowCell (i := 2) rfl k (.bool false) (by unfold bools; rw [List.getElem?_map, up_off (by omega) hlt]; rfl)
          have HN : Hid (c = min (k + 1) p0) := by have := hck.out; unfold Hid; omega
          clear hck
          go_wp2
          go_roundw
          case rel => exact ⟨k + 1, c, by omega, hc, HN.out, by go_num, rfl, by trivial⟩
          case measure => simp [intOf]; omega
      · obtain rfl : k = 64 := by omega
        obtain rfl : c = p0 := by have := hck.out; omega
        obtain ⟨-, -, hK, hKV, hK120, rk, lo, hTr⟩ := hF.out
        have HK := hideIt hK
        have HKV := hideIt hKV
        have HTR := hideIt hTr
        have hkb := rKey_bd key
        have hvb := rVal3_bd key up
        obtain ⟨ky, hky⟩ : ∃ x, rKey key = x := ⟨_, rfl⟩
        obtain ⟨vl, hvl⟩ : ∃ x, rVal 3 key up = x := ⟨_, rfl⟩
        rw [hky] at hkb hvb
        rw [hvl] at hvb
        have HKE := hideIt hky
        have HVE := hideIt hvl
        obtain ⟨hkb1, hkb2⟩ := hkb
        obtain ⟨hvb1, hvb2⟩ := hvb
        clear hF hK hKV hTr hky hvl hk hc hlt
        have I0 : Hid (I64 0) := by unfold Hid I64; omega
        have I3 : Hid (I64 3) := by unfold Hid I64; omega
        have HVR : Hid (∀ pg, pg < 64 → (List.replicate 64 (Value.int .i64 0))[pg]? = some (.int .i64 0)) := fun pg h => by rw [List.getElem?_replicate, if_pos h]
        go_wp2_with fail
        refine (right_make 0 key 0 _ I0.out HKY.out I0.out).mono ?_
        rintro e w3 ⟨rfl, hb⟩
        rw [rKd0, rVal0, HKE.out]
        have A1 : M w1 w1.heap.size w3 [.blk gw (WC (.slice (some ⟨tg, 0, none⟩) 64 tc) (.slice (some ⟨ug, 0, none⟩) 64 uc) (.slice (some ⟨vg, 0, none⟩) 64 vc) (.slice none 0 0) (.slice (some ⟨bg, 0, none⟩) 64 bc) (0) 0 false false false false false (.slice none 0 0) (.slice none 0 0) false) 34, .row 9 1 (.slice (some ⟨tg, 0, none⟩) 64 tc) 64 (strs T), .row 4 1 (.slice (some ⟨ug, 0, none⟩) 64 uc) 64 (bools (Up c)), .row 3 1 (.slice (some ⟨vg, 0, none⟩) 64 vc) 64 (List.replicate 64 (.int .i64 0)), .row 3 1 (.slice (some ⟨bg, 0, none⟩) 64 bc) 64 (List.replicate 64 (.int .i64 (-1))), .blk gt #[tk, tvv] 55, .row 3 1 tk K.length (ints K), .row 3 1 tvv V.length (ints V)] := hM.out.below hb
        have A3 := hideIt ((A1.alloc #[.int .i64 1, .int .i64 ky, .int .i64 0] 36).fdIn (e := 40) (z := 1))
        clear A1 hb hM g1
        have o0 := A3.out.cell (i := 6) rfl 0 (.int .i64 1) rfl
        have o1 := A3.out.cell (i := 6) rfl 1 (.int .i64 ky) rfl
        have o2 := A3.out.cell (i := 6) rfl 2 (.int .i64 0) rfl
        go_wp2_with fail
        refine (begin_op gw bg bc 0 _ _ _ (.slice none 0 0) _ _ 0 0 false false false false false false _ [] 1 ky 0 _ w1 _ w1.heap.size HT.out rfl (by simp [opR]; omega) (by omega) (by omega) A3.out).mono ?_
        rintro e w4 ⟨⟨u, rfl⟩, gd, f, kv, dv', hf, hM4⟩
        obtain ⟨go, hgo⟩ : ∃ g, w3.heap.size = g := ⟨_, rfl⟩
        rw [hgo] at hM4 ⊢
        clear hgo
        obtain ⟨kg, kc, rfl⟩ := As.form (hM4.get (i := 1) rfl) (by omega)
        obtain ⟨dg, dc, rfl⟩ := As.form (hM4.get (i := 4) rfl) (by omega)
        rw [busy0] at hM4
        have A5 := hideIt (M.fdAt (e := 3) (z := 1) hM4)
        have HF4 := hideIt hf
        clear hM4 hf A3 o0 o1 o2
        have b14 := A5.out.cell (i := 3) rfl 14 (.bool false) rfl
        have CA := hideIt (alone_any (GeP c rk lo ky) (GeQ K V ky c) gd kg kc gw tg tc ug uc vg vc dg dc bg bc (0 + 1) 0 _ _ 0 0 1 ky 0 f _ _ (List.replicate 63 (.int .i64 (-1))) _ T (Up c) (st0 1 ky 0) _ w1 w4 w1.heap.size HT.out rfl (leads_of (get_goes HTR.out hp64 hkb1 hkb2) hp64) (get_start HTR.out hkb1) HF4.out HVR.out rfl (by omega) rfl ⟨by omega, by omega⟩ A5.out)
        clear A5 HF4
        go_wp2_with fail
        refine CA.out.mono ?_
        rintro e w5 ⟨⟨u5, rfl⟩, j1, fd1, va1, pt1, ks1, vs1, cs1, tm1, kns1, kv1, vv1, cv1, hj1, hQ1, hM5⟩
        obtain ⟨fdq, vaq, ptq, hq, hjp, hval⟩ := hQ1
        obtain ⟨rfl, rfl, rfl, rfl, rfl, rfl⟩ : fd1 = fdq ∧ va1 = vaq ∧ pt1 = ptq ∧ ks1 = [] ∧ vs1 = [] ∧ cs1 = [] := by cases hq; exact ⟨rfl, rfl, rfl, rfl, rfl, rfl⟩
        obtain ⟨ta1, tc1, rfl⟩ := As.form0 (hM5.get (i := 5) rfl)
        have H5 := hideIt hM5
        have HVAL := hideIt hval
        clear hM5 hval CA b14 hq
        have g3 := H5.out.cell (i := 6) rfl 3 (.slice (some ⟨dg, 0, none⟩) (0 + 1) dc) rfl
        have d0 := H5.out.rowCell (i := 8) rfl 0 (.pointer (some ⟨gd, 0, none⟩)) rfl
        have o1 := H5.out.cell (i := 12) rfl 1 (.int .i64 ky) rfl
        have t0 := H5.out.cell (i := 13) rfl 0 tk rfl
        have t1 := H5.out.cell (i := 13) rfl 1 tvv rfl
        have r14 : As.holds w5 w1.heap.size (.row 3 1 tk K.length (ints K)) := H5.out.get (i := 14) rfl
        have r15 : As.holds w5 w1.heap.size (.row 3 1 tvv V.length (ints V)) := H5.out.get (i := 15) rfl
        have CV := hideIt (value_any gt tk tvv K V ky w5 t0 t1 (owns_rd r14) (owns_rd r15) (by omega) HKV.out)
        clear t0 t1 r14 r15
        go_wp2_with fail
        refine CV.out.mono ?_
        rintro e w6 ⟨fd2, v2, rfl, hVR, hb6⟩
        obtain ⟨e1, e2⟩ := HVAL.out fd2 v2 hVR
        subst e1
        subst e2
        have H6 := hideIt (H5.out.below hb6)
        clear CV hb6 hVR HVAL H5 g3 d0 o1
        have g14 := H6.out.cell (i := 6) rfl 14 (.bool false) rfl
        have x8 := H6.out.cell (i := 3) rfl 8 (.int .i64 0) rfl
        have x9 := H6.out.cell (i := 3) rfl 9 (.bool fd2) rfl
        have x10 := H6.out.cell (i := 3) rfl 10 (.int .i64 v2) rfl
        have x4 := H6.out.cell (i := 3) rfl 4 (.slice ta1 j1 tc1) rfl
        have hjd : decide ((c : Int) < (j1 : Int)) = false := by rw [decide_eq_false_iff_not]; omega
        have hjd2 : decide (c < j1) = false := by rw [decide_eq_false_iff_not]; omega
        go_wp2_with fail
        refine (right_make 3 key up _ I3.out HKY.out HUP.out).mono ?_
        rintro e w7 ⟨rfl, hb7⟩
        rw [rKd3, HKE.out, HVE.out]
        have A7 := hideIt ((H6.out.below hb7).fdNx)
        clear hb7 H6 g14 x8 x9 x10 x4 hjd hjd2
        go_wp2_with fail
        refine (begin_op gw bg bc (0 + 1) _ _ _ _ _ _ _ _ false false false false false false _ _ 4 ky vl _ w1 _ w1.heap.size HT.out rfl (by simp [opR]; omega) (by omega) (by omega) A7.out).mono ?_
        rintro e w8 ⟨⟨u8, rfl⟩, gd2, f2, kv2, dv2, hf2, hM8⟩
        obtain ⟨kg2, kc2, rfl⟩ := As.form (hM8.get (i := 1) rfl) (by omega)
        obtain ⟨dg2, dc2, rfl⟩ := As.form (hM8.get (i := 4) rfl) (by omega)
        rw [List.set_cons_zero] at hM8
        have A9 := hideIt (M.fdAt (e := 3) (z := 1) hM8)
        have HF8 := hideIt hf2
        clear hM8 hf2 A7
        have b14 := A9.out.cell (i := 3) rfl 14 (.bool false) rfl
        have CA2 := hideIt (alone_any (ScP c K V rk lo ky vl) (ScQ K V ky vl c) gd2 kg2 kc2 gw tg tc ug uc vg vc dg2 dc2 bg bc (0 + 1 + 1) (0 + 1) _ _ _ 0 4 ky vl f2 _ _ (List.replicate 63 (.int .i64 (-1))) _ T (Up c) (st0 4 ky vl) _ w1 w8 w1.heap.size HT.out rfl (leads_of (scan_goes HTR.out HK.out hp64 hkb1 hvb1 hvb2) hp64) (scan_start HTR.out hkb1) HF8.out HVR.out rfl (by omega) rfl ⟨by omega, by omega⟩ A9.out)
        clear A9 HF8
        go_wp2_with fail
        refine CA2.out.mono ?_
        rintro e w9 ⟨⟨u9, rfl⟩, j2, fd3, va3, pt3, ks3, vs3, cs3, tm3, kns3, kv3, vv3, cv3, hj2, hQ2, hM9⟩
        obtain ⟨va, pt, ks, vs, bel, pts, b, hq, hva, hjp2, hbp, hbj, hbl, hpl, hks, hz, hbel, hpts, h12, hend⟩ := hQ2
        obtain ⟨rfl, rfl, rfl, rfl, rfl, rfl⟩ : fd3 = decide (0 < ks.length) ∧ va3 = va ∧ pt3 = pt ∧ ks3 = ks ∧ vs3 = vs ∧ cs3 = bel.zip pts := by cases hq; exact ⟨rfl, rfl, rfl, rfl, rfl, rfl⟩
        clear hq CA2 b14
        obtain ⟨m, hm⟩ : ∃ m, bel.length = m + 1 := by
          cases bel with
          | nil => cases hbl
          | cons a r => exact ⟨r.length, rfl⟩
        have hcl : (bel.zip pts).length = m + 1 := by rw [List.length_zip]; omega
        rw [hcl] at hM9
        obtain ⟨cg, cc, rfl⟩ := As.form (hM9.get (i := 2) rfl) (by omega)
        obtain ⟨ta3, tc3, rfl⟩ := As.form0 (hM9.get (i := 5) rfl)
        subst hva
        have hpm : pts.length = m + 1 := by omega
        have hc9 : ∀ i, i < m + 1 → w9.cell? ⟨cg, i * 2, none⟩ = some (.int .i64 (bel[i]?.getD 0)) ∧ w9.cell? ⟨cg, i * 2 + 1, none⟩ = some (.int .i64 (pts[i]?.getD 0)) := by
          intro i hi
          have hrow : w9.ownsRow w1.heap.size 76 2 (.slice (some ⟨cg, 0, none⟩) (m + 1) cc) (m + 1) (cutc (bel.zip pts)) := hM9.get (i := 2) rfl
          have hzi : (bel.zip pts)[i]? = some (bel[i]?.getD 0, pts[i]?.getD 0) := by
            rw [List.getElem?_zip_eq_some, List.getElem?_eq_getElem (show i < bel.length by omega), List.getElem?_eq_getElem (show i < pts.length by omega)]
            exact ⟨rfl, rfl⟩
          obtain ⟨h1, h2⟩ := cutc_at _ i _ hzi
          exact ⟨by rw [World.ownsRow.cellAt hrow _ (by omega)]; exact h1, by rw [World.ownsRow.cellAt hrow _ (by omega)]; exact h2⟩
        have r0 : As.holds w9 w1.heap.size (.row 3 1 kv3 ks3.length (ints ks3)) := hM9.get (i := 0) rfl
        have r1 : As.holds w9 w1.heap.size (.row 3 1 vv3 vs3.length (ints vs3)) := hM9.get (i := 1) rfl
        have r5 : As.holds w9 w1.heap.size (.row 3 1 (.slice ta3 j2 tc3) j2 (ints (tsq (0 + (j1 : Int)) j2))) := hM9.get (i := 5) rfl
        have r20 : As.holds w9 w1.heap.size (.row 3 1 tk K.length (ints K)) := hM9.get (i := 20) rfl
        have r21 : As.holds w9 w1.heap.size (.row 3 1 tvv V.length (ints V)) := hM9.get (i := 21) rfl
        have H9 := hideIt hM9
        have CP := hideIt (pieces_yes gd2 gt cg m cc j2 (.pointer (some ⟨gw, 0, none⟩)) ky vl pt3 b (0 + (j1 : Int)) (decide (0 < ks3.length)) kv3 vv3 (.slice ta3 j2 tc3) tk tvv ks3 vs3 K V bel pts w9
          (hM9.cell (i := 3) rfl 1 _ rfl) (hM9.cell (i := 3) rfl 2 _ rfl) (hM9.cell (i := 3) rfl 4 _ rfl) (hM9.cell (i := 3) rfl 8 _ rfl) (hM9.cell (i := 3) rfl 9 _ rfl) (hM9.cell (i := 3) rfl 10 _ rfl) (hM9.cell (i := 3) rfl 11 _ rfl) (hM9.cell (i := 3) rfl 12 _ rfl) (hM9.cell (i := 3) rfl 13 _ rfl) (hM9.cell (i := 3) rfl 14 _ rfl)
          (hM9.cell (i := 19) rfl 0 _ rfl) (hM9.cell (i := 19) rfl 1 _ rfl) (owns_rd r0) (owns_rd r1) (owns_rdN (tsq_len _ _) r5) (owns_rd r20) (owns_rd r21) hc9 hm hpm (by omega) hj2 HK.out HKV.out hK120 hks hz hbl hpl hbel hpts (by omega) (by omega) h12 rfl hend (by omega) (by omega) (by omega))
        clear hM9 hc9 r0 r1 r5 r20 r21 hbp hbj hbl hbel hpts hpl h12 hend hks hz hm hcl hpm
        have g3 := H9.out.cell (i := 6) rfl 3 (.slice (some ⟨dg2, 0, none⟩) (0 + 1 + 1) dc2) rfl
        have d1 := H9.out.rowCell (i := 8) rfl 1 (.pointer (some ⟨gd2, 0, none⟩)) rfl
        go_wp2_with fail
        refine CP.out.mono ?_
        rintro e w10 ⟨rfl, hb10⟩
        have H10 := hideIt (H9.out.below hb10)
        clear H9 CP hb10 g3 d1
        have g14 := H10.out.cell (i := 6) rfl 14 (.bool false) rfl
        have g8 := H10.out.cell (i := 6) rfl 8 (.bool false) rfl
        have x4 := H10.out.cell (i := 3) rfl 4 (.slice ta3 j2 tc3) rfl
        have hjd : ((j2 : Int) ≤ (c : Int)) := by omega
        go_wp2
        go_ret
        exact ⟨rfl, H10.out.bl⟩
  · have hM := hideIt hM0
    have hF := hideIt hF0
    clear HG hM0 hF0 CG2
    obtain ⟨tg, tc, rfl⟩ := As.form (hM.out.get (i := 1) rfl) (by omega)
    obtain ⟨ug, uc, rfl⟩ := As.form (hM.out.get (i := 2) rfl) (by omega)
    obtain ⟨vg, vc, rfl⟩ := As.form (hM.out.get (i := 3) rfl) (by omega)
    obtain ⟨bg, bc, rfl⟩ := As.form (hM.out.get (i := 4) rfl) (by omega)
    have hp64 : p0 ≤ 64 := hF.out.2.1
    have g1 := hM.out.cell (i := 0) rfl 1 (.slice (some ⟨ug, 0, none⟩) 64 uc) rfl
    go_wp2
    go_loopw [12, 13] (fun n i wr => ∃ k c : Nat, k ≤ 64 ∧ c ≤ 64 ∧ Hid (c = min k p0) ∧ i = .int .i64 k ∧ n = .int .i64 c ∧ wr = w2) (fun _ i _ => 64 - (intOf i).toNat)
    case atStart => exact ⟨0, 0, by omega, by omega, by unfold Hid; omega, rfl, rfl, rfl⟩
    case round =>
      obtain ⟨k, c, hk, hc, hck, rfl, rfl, rfl⟩ := hrel
      by_cases hlt : k < 64
      · have hkk : (0 : Int) ≤ (k : Int) := by omega
        have hkl : (k : Int) < 64 := by omega
        by_cases hkp : k < p0
        · have u1 := hM.out.rowCell (i := 2) rfl k (.bool true) (by unfold bools; rw [List.getElem?_map, up_at hkp]; rfl)
          have HN : Hid (c + 1 = min (k + 1) p0) := by have := hck.out; unfold Hid; omega
          have hc64 : c + 1 ≤ 64 := by have := HN.out; omega
          clear hck
          go_wp2
          go_roundw
          case rel => exact ⟨k + 1, c + 1, by omega, hc64, HN.out, by go_num, by go_num, by trivial⟩
          case measure => simp [intOf]; omega
        · have u1 := hM.out.rowCell (i := 2) rfl k (.bool false) (by unfold bools; rw [List.getElem?_map, up_off (by omega) hlt]; rfl)
          have HN : Hid (c = min (k + 1) p0) := by have := hck.out; unfold Hid; omega
          clear hck
          go_wp2
          go_roundw
          case rel => exact ⟨k + 1, c, by omega, hc, HN.out, by go_num, rfl, by trivial⟩
          case measure => simp [intOf]; omega
      · obtain rfl : k = 64 := by omega
        obtain rfl : c = p0 := by have := hck.out; omega
        obtain ⟨-, -, hK, hKV, hK120, rk, lo, hTr⟩ := hF.out
        have HK := hideIt hK
        have HKV := hideIt hKV
        have HTR := hideIt hTr
        have hkb := rKey_bd key
        have hvb := rVal3_bd key up
        obtain ⟨ky, hky⟩ : ∃ x, rKey key = x := ⟨_, rfl⟩
        obtain ⟨vl, hvl⟩ : ∃ x, rVal 3 key up = x := ⟨_, rfl⟩
        rw [hky] at hkb hvb
        rw [hvl] at hvb
        have HKE := hideIt hky
        have HVE := hideIt hvl
        obtain ⟨hkb1, hkb2⟩ := hkb
        obtain ⟨hvb1, hvb2⟩ := hvb
        clear hF hK hKV hTr hky hvl hk hc hlt
        have I0 : Hid (I64 0) := by unfold Hid I64; omega
        have I3 : Hid (I64 3) := by unfold Hid I64; omega
        have HVR : Hid (∀ pg, pg < 64 → (List.replicate 64 (Value.int .i64 0))[pg]? = some (.int .i64 0)) := fun pg h => by rw [List.getElem?_replicate, if_pos h]
        go_wp2_with fail
        refine (right_make 0 key 0 _ I0.out HKY.out I0.out).mono ?_
        rintro e w3 ⟨rfl, hb⟩
        rw [rKd0, rVal0, HKE.out]
        have A1 : M w1 w1.heap.size w3 [.blk gw (WC (.slice (some ⟨tg, 0, none⟩) 64 tc) (.slice (some ⟨ug, 0, none⟩) 64 uc) (.slice (some ⟨vg, 0, none⟩) 64 vc) (.slice none 0 0) (.slice (some ⟨bg, 0, none⟩) 64 bc) (0) 0 false false false false false (.slice none 0 0) (.slice none 0 0) false) 34, .row 9 1 (.slice (some ⟨tg, 0, none⟩) 64 tc) 64 (strs T), .row 4 1 (.slice (some ⟨ug, 0, none⟩) 64 uc) 64 (bools (Up c)), .row 3 1 (.slice (some ⟨vg, 0, none⟩) 64 vc) 64 (List.replicate 64 (.int .i64 0)), .row 3 1 (.slice (some ⟨bg, 0, none⟩) 64 bc) 64 (List.replicate 64 (.int .i64 (-1))), .blk gt #[tk, tvv] 55, .row 3 1 tk K.length (ints K), .row 3 1 tvv V.length (ints V)] := hM.out.below hb
        have A3 := hideIt ((A1.alloc #[.int .i64 1, .int .i64 ky, .int .i64 0] 36).fdIn (e := 40) (z := 1))
        clear A1 hb hM g1
        have o0 := A3.out.cell (i := 6) rfl 0 (.int .i64 1) rfl
        have o1 := A3.out.cell (i := 6) rfl 1 (.int .i64 ky) rfl
        have o2 := A3.out.cell (i := 6) rfl 2 (.int .i64 0) rfl
        go_wp2_with fail
        refine (begin_op gw bg bc 0 _ _ _ (.slice none 0 0) _ _ 0 0 false false false false false false _ [] 1 ky 0 _ w1 _ w1.heap.size HT.out rfl (by simp [opR]; omega) (by omega) (by omega) A3.out).mono ?_
        rintro e w4 ⟨⟨u, rfl⟩, gd, f, kv, dv', hf, hM4⟩
        obtain ⟨go, hgo⟩ : ∃ g, w3.heap.size = g := ⟨_, rfl⟩
        rw [hgo] at hM4 ⊢
        clear hgo
        obtain ⟨kg, kc, rfl⟩ := As.form (hM4.get (i := 1) rfl) (by omega)
        obtain ⟨dg, dc, rfl⟩ := As.form (hM4.get (i := 4) rfl) (by omega)
        rw [busy0] at hM4
        have A5 := hideIt (M.fdAt (e := 3) (z := 1) hM4)
        have HF4 := hideIt hf
        clear hM4 hf A3 o0 o1 o2
        have b14 := A5.out.cell (i := 3) rfl 14 (.bool false) rfl
        have CA := hideIt (alone_any (GeP c rk lo ky) (GeQ K V ky c) gd kg kc gw tg tc ug uc vg vc dg dc bg bc (0 + 1) 0 _ _ 0 0 1 ky 0 f _ _ (List.replicate 63 (.int .i64 (-1))) _ T (Up c) (st0 1 ky 0) _ w1 w4 w1.heap.size HT.out rfl (leads_of (get_goes HTR.out hp64 hkb1 hkb2) hp64) (get_start HTR.out hkb1) HF4.out HVR.out rfl (by omega) rfl ⟨by omega, by omega⟩ A5.out)
        clear A5 HF4
        go_wp2_with fail
        refine CA.out.mono ?_
        rintro e w5 ⟨⟨u5, rfl⟩, j1, fd1, va1, pt1, ks1, vs1, cs1, tm1, kns1, kv1, vv1, cv1, hj1, hQ1, hM5⟩
        obtain ⟨fdq, vaq, ptq, hq, hjp, hval⟩ := hQ1
        obtain ⟨rfl, rfl, rfl, rfl, rfl, rfl⟩ : fd1 = fdq ∧ va1 = vaq ∧ pt1 = ptq ∧ ks1 = [] ∧ vs1 = [] ∧ cs1 = [] := by cases hq; exact ⟨rfl, rfl, rfl, rfl, rfl, rfl⟩
        obtain ⟨ta1, tc1, rfl⟩ := As.form0 (hM5.get (i := 5) rfl)
        have H5 := hideIt hM5
        have HVAL := hideIt hval
        clear hM5 hval CA b14 hq
        have g3 := H5.out.cell (i := 6) rfl 3 (.slice (some ⟨dg, 0, none⟩) (0 + 1) dc) rfl
        have d0 := H5.out.rowCell (i := 8) rfl 0 (.pointer (some ⟨gd, 0, none⟩)) rfl
        have o1 := H5.out.cell (i := 12) rfl 1 (.int .i64 ky) rfl
        have t0 := H5.out.cell (i := 13) rfl 0 tk rfl
        have t1 := H5.out.cell (i := 13) rfl 1 tvv rfl
        have r14 : As.holds w5 w1.heap.size (.row 3 1 tk K.length (ints K)) := H5.out.get (i := 14) rfl
        have r15 : As.holds w5 w1.heap.size (.row 3 1 tvv V.length (ints V)) := H5.out.get (i := 15) rfl
        have CV := hideIt (value_any gt tk tvv K V ky w5 t0 t1 (owns_rd r14) (owns_rd r15) (by omega) HKV.out)
        clear t0 t1 r14 r15
        go_wp2_with fail
        refine CV.out.mono ?_
        rintro e w6 ⟨fd2, v2, rfl, hVR, hb6⟩
        obtain ⟨e1, e2⟩ := HVAL.out fd2 v2 hVR
        subst e1
        subst e2
        have H6 := hideIt (H5.out.below hb6)
        clear CV hb6 hVR HVAL H5 g3 d0 o1
        have g14 := H6.out.cell (i := 6) rfl 14 (.bool false) rfl
        have x8 := H6.out.cell (i := 3) rfl 8 (.int .i64 0) rfl
        have x9 := H6.out.cell (i := 3) rfl 9 (.bool fd2) rfl
        have x10 := H6.out.cell (i := 3) rfl 10 (.int .i64 v2) rfl
        have x4 := H6.out.cell (i := 3) rfl 4 (.slice ta1 j1 tc1) rfl
        have hjd : decide ((c : Int) < (j1 : Int)) = false := by rw [decide_eq_false_iff_not]; omega
        have hjd2 : decide (c < j1) = false := by rw [decide_eq_false_iff_not]; omega
        go_wp2_with fail
        refine (right_make 3 key up _ I3.out HKY.out HUP.out).mono ?_
        rintro e w7 ⟨rfl, hb7⟩
        rw [rKd3, HKE.out, HVE.out]
        have A7 := hideIt ((H6.out.below hb7).fdNx)
        clear hb7 H6 g14 x8 x9 x10 x4 hjd hjd2
        go_wp2_with fail
        refine (begin_op gw bg bc (0 + 1) _ _ _ _ _ _ _ _ false false false false false false _ _ 4 ky vl _ w1 _ w1.heap.size HT.out rfl (by simp [opR]; omega) (by omega) (by omega) A7.out).mono ?_
        rintro e w8 ⟨⟨u8, rfl⟩, gd2, f2, kv2, dv2, hf2, hM8⟩
        obtain ⟨kg2, kc2, rfl⟩ := As.form (hM8.get (i := 1) rfl) (by omega)
        obtain ⟨dg2, dc2, rfl⟩ := As.form (hM8.get (i := 4) rfl) (by omega)
        rw [List.set_cons_zero] at hM8
        have A9 := hideIt (M.fdAt (e := 3) (z := 1) hM8)
        have HF8 := hideIt hf2
        clear hM8 hf2 A7
        have b14 := A9.out.cell (i := 3) rfl 14 (.bool false) rfl
        have CA2 := hideIt (alone_any (ScP c K V rk lo ky vl) (ScQ K V ky vl c) gd2 kg2 kc2 gw tg tc ug uc vg vc dg2 dc2 bg bc (0 + 1 + 1) (0 + 1) _ _ _ 0 4 ky vl f2 _ _ (List.replicate 63 (.int .i64 (-1))) _ T (Up c) (st0 4 ky vl) _ w1 w8 w1.heap.size HT.out rfl (leads_of (scan_goes HTR.out HK.out hp64 hkb1 hvb1 hvb2) hp64) (scan_start HTR.out hkb1) HF8.out HVR.out rfl (by omega) rfl ⟨by omega, by omega⟩ A9.out)
        clear A9 HF8
        go_wp2_with fail
        refine CA2.out.mono ?_
        rintro e w9 ⟨⟨u9, rfl⟩, j2, fd3, va3, pt3, ks3, vs3, cs3, tm3, kns3, kv3, vv3, cv3, hj2, hQ2, hM9⟩
        obtain ⟨va, pt, ks, vs, bel, pts, b, hq, hva, hjp2, hbp, hbj, hbl, hpl, hks, hz, hbel, hpts, h12, hend⟩ := hQ2
        obtain ⟨rfl, rfl, rfl, rfl, rfl, rfl⟩ : fd3 = decide (0 < ks.length) ∧ va3 = va ∧ pt3 = pt ∧ ks3 = ks ∧ vs3 = vs ∧ cs3 = bel.zip pts := by cases hq; exact ⟨rfl, rfl, rfl, rfl, rfl, rfl⟩
        clear hq CA2 b14
        obtain ⟨m, hm⟩ : ∃ m, bel.length = m + 1 := by
          cases bel with
          | nil => cases hbl
          | cons a r => exact ⟨r.length, rfl⟩
        have hcl : (bel.zip pts).length = m + 1 := by rw [List.length_zip]; omega
        rw [hcl] at hM9
        obtain ⟨cg, cc, rfl⟩ := As.form (hM9.get (i := 2) rfl) (by omega)
        obtain ⟨ta3, tc3, rfl⟩ := As.form0 (hM9.get (i := 5) rfl)
        subst hva
        have hpm : pts.length = m + 1 := by omega
        have hc9 : ∀ i, i < m + 1 → w9.cell? ⟨cg, i * 2, none⟩ = some (.int .i64 (bel[i]?.getD 0)) ∧ w9.cell? ⟨cg, i * 2 + 1, none⟩ = some (.int .i64 (pts[i]?.getD 0)) := by
          intro i hi
          have hrow : w9.ownsRow w1.heap.size 76 2 (.slice (some ⟨cg, 0, none⟩) (m + 1) cc) (m + 1) (cutc (bel.zip pts)) := hM9.get (i := 2) rfl
          have hzi : (bel.zip pts)[i]? = some (bel[i]?.getD 0, pts[i]?.getD 0) := by
            rw [List.getElem?_zip_eq_some, List.getElem?_eq_getElem (show i < bel.length by omega), List.getElem?_eq_getElem (show i < pts.length by omega)]
            exact ⟨rfl, rfl⟩
          obtain ⟨h1, h2⟩ := cutc_at _ i _ hzi
          exact ⟨by rw [World.ownsRow.cellAt hrow _ (by omega)]; exact h1, by rw [World.ownsRow.cellAt hrow _ (by omega)]; exact h2⟩
        have r0 : As.holds w9 w1.heap.size (.row 3 1 kv3 ks3.length (ints ks3)) := hM9.get (i := 0) rfl
        have r1 : As.holds w9 w1.heap.size (.row 3 1 vv3 vs3.length (ints vs3)) := hM9.get (i := 1) rfl
        have r5 : As.holds w9 w1.heap.size (.row 3 1 (.slice ta3 j2 tc3) j2 (ints (tsq (0 + (j1 : Int)) j2))) := hM9.get (i := 5) rfl
        have r20 : As.holds w9 w1.heap.size (.row 3 1 tk K.length (ints K)) := hM9.get (i := 20) rfl
        have r21 : As.holds w9 w1.heap.size (.row 3 1 tvv V.length (ints V)) := hM9.get (i := 21) rfl
        have H9 := hideIt hM9
        have CP := hideIt (pieces_yes gd2 gt cg m cc j2 (.pointer (some ⟨gw, 0, none⟩)) ky vl pt3 b (0 + (j1 : Int)) (decide (0 < ks3.length)) kv3 vv3 (.slice ta3 j2 tc3) tk tvv ks3 vs3 K V bel pts w9
          (hM9.cell (i := 3) rfl 1 _ rfl) (hM9.cell (i := 3) rfl 2 _ rfl) (hM9.cell (i := 3) rfl 4 _ rfl) (hM9.cell (i := 3) rfl 8 _ rfl) (hM9.cell (i := 3) rfl 9 _ rfl) (hM9.cell (i := 3) rfl 10 _ rfl) (hM9.cell (i := 3) rfl 11 _ rfl) (hM9.cell (i := 3) rfl 12 _ rfl) (hM9.cell (i := 3) rfl 13 _ rfl) (hM9.cell (i := 3) rfl 14 _ rfl)
          (hM9.cell (i := 19) rfl 0 _ rfl) (hM9.cell (i := 19) rfl 1 _ rfl) (owns_rd r0) (owns_rd r1) (owns_rdN (tsq_len _ _) r5) (owns_rd r20) (owns_rd r21) hc9 hm hpm (by omega) hj2 HK.out HKV.out hK120 hks hz hbl hpl hbel hpts (by omega) (by omega) h12 rfl hend (by omega) (by omega) (by omega))
        clear hM9 hc9 r0 r1 r5 r20 r21 hbp hbj hbl hbel hpts hpl h12 hend hks hz hm hcl hpm
        have g3 := H9.out.cell (i := 6) rfl 3 (.slice (some ⟨dg2, 0, none⟩) (0 + 1 + 1) dc2) rfl
        have d1 := H9.out.rowCell (i := 8) rfl 1 (.pointer (some ⟨gd2, 0, none⟩)) rfl
        go_wp2_with fail
        refine CP.out.mono ?_
        rintro e w10 ⟨rfl, hb10⟩
        have H10 := hideIt (H9.out.below hb10)
        clear H9 CP hb10 g3 d1
        have g14 := H10.out.cell (i := 6) rfl 14 (.bool false) rfl
        have g8 := H10.out.cell (i := 6) rfl 8 (.bool false) rfl
        have x4 := H10.out.cell (i := 3) rfl 4 (.slice ta3 j2 tc3) rfl
        have hjd : ((j2 : Int) ≤ (c : Int)) := by omega
        go_wp2
        go_ret
        exact ⟨rfl, H10.out.bl⟩
end Go.Proofs.YtajobgmnmbnhiaaGreatDoor.Sap
