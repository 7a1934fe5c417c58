/- WHAT IS PROVED HERE: saplingkeep.above makes the level above a row of nodes. Conditions: 1 to 200 nodes, each but the first has a key; the sizes are ints. -/
import Derived.Test.YtajobgmnmbnhiaaGreatDoorXS1T9
import Derived.Test.YtajobgmnmbnhiaaGreatDoorXS2S4
namespace Go.Proofs.YtajobgmnmbnhiaaGreatDoor.Sap
open Go.RowKit

/-- A node that has the children s to e - 1, some of them entered, the first among them. -/
structure Grp (ns : List Nv) (f lv : Int) (x : Nv) (s e : Nat) (A : List Nat) : Prop where
  lv : x.n.lv = lv + 1
  ks : x.n.ks = A.map (bnd ns)
  vs : x.n.vs = A.map fun (a : Nat) => f + (a : Int)
  hd : ∃ r, A = s :: r
  up : A.Pairwise (· < ·)
  lt : ∀ a ∈ A, a < e
/-- The nodes above the first p nodes of a row. -/
def Abv (ns : List Nv) (f lv : Int) (ms : List Nv) (p : Nat) : Prop :=
  ∃ cuts : List Nat, cuts.length = ms.length + 1 ∧ cuts[0]? = some 0 ∧ cuts[ms.length]? = some p ∧ ∀ i x, ms[i]? = some x → ∃ s e A, cuts[i]? = some s ∧ cuts[i + 1]? = some e ∧ Grp ns f lv x s e A
theorem Abv.nil (ns : List Nv) (f lv : Int) : Abv ns f lv [] 0 := ⟨[0], rfl, rfl, rfl, fun i x h => by simp at h⟩
theorem Abv.snoc {ns : List Nv} {f lv : Int} {ms : List Nv} {p q : Nat} {x : Nv} {A : List Nat} (h : Abv ns f lv ms p) (hg : Grp ns f lv x p q A) : Abv ns f lv (ms ++ [x]) q := by
  obtain ⟨cuts, h1, h2, h3, h4⟩ := h
  refine ⟨cuts ++ [q], by simp [h1], ?_, ?_, fun i y hy => ?_⟩
  · rw [List.getElem?_append_left (by omega)]; exact h2
  · rw [List.length_append, List.getElem?_append_right (by simp; omega)]; simp [h1]
  · rcases Nat.lt_or_ge i ms.length with hl | hl
    · rw [List.getElem?_append_left hl] at hy
      obtain ⟨s, e, A, c1, c2, c3⟩ := h4 i y hy
      exact ⟨s, e, A, by rw [List.getElem?_append_left (by omega)]; exact c1, by rw [List.getElem?_append_left (by omega)]; exact c2, c3⟩
    · rw [List.getElem?_append_right hl] at hy
      have hi : i = ms.length := by
        rcases Nat.lt_or_ge (i - ms.length) 1 with h' | h'
        · omega
        · rw [List.getElem?_eq_none (by simpa using h')] at hy; cases hy
      subst hi
      simp at hy
      subst hy
      exact ⟨p, q, A, by rw [List.getElem?_append_left (by omega)]; exact h3, by rw [List.getElem?_append_right (by omega)]; simp [h1], hg⟩

theorem M.push2 {w0 w : World} {B : Nat} {b k v o c : As} {l : List As} (h : M w0 B w (b :: k :: v :: o :: (l ++ [c]))) : M w0 B w (o :: ((l ++ [k, v]) ++ [c])) := by
  refine (M.push h).perm ?_
  refine List.Perm.cons _ ?_
  rw [List.append_assoc, List.append_assoc]
  exact List.Perm.append_left _ List.perm_append_comm
theorem map_snoc1 (ns : List Nv) (A : List Nat) (s : Nat) : (A ++ [s]).map (bnd ns) = A.map (bnd ns) ++ [bnd ns s] := by simp
theorem map_snoc2 (f : Int) (A : List Nat) (s : Nat) : ((A ++ [s]).map fun (a : Nat) => f + (a : Int)) = (A.map fun (a : Nat) => f + (a : Int)) ++ [f + (s : Int)] := by simp
/-- What above answers. -/
def AboveR (ns : List Nv) (f : Int) (w w' : World) (e : Ending) : Prop :=
  ∃ v ms, e = .returned v ∧ M w w.heap.size w' (.row 67 5 v ms.length (ncells ms) :: nrows ms) ∧ Abv ns f ((ns[0]?.map fun x => x.n.lv).getD 0) ms ns.length
theorem M.consNil {w0 w : World} {B : Nat} {l : List As} {e : TypeId} {z : Nat} (h : M w0 B w l) : M w0 B w (.row e z (.slice none 0 0) 0 [] :: l) :=
  (M.snocNil h).perm (by simpa using List.perm_append_comm (l₁ := [As.row e z (Value.slice none 0 0) 0 []]) (l₂ := l))
set_option maxRecDepth 100000 in
set_option maxHeartbeats 800000 in
theorem pick_big (c n : Int) (w : World) (h : I64 c) (hn1 : 1 ≤ n) (hn2 : n ≤ 1048576) :
    Calls Tryz.prog 26 #[.int .i64 c, .int .i64 n] w fun e w' => (∃ r, e = .returned (.int .i64 r) ∧ 0 ≤ r ∧ r < n) ∧ w' = w := by
  obtain ⟨h0, h1⟩ := h
  have hb := pickV_bd c n hn1
  have hnz : (n == 0) = false := by simp; omega
  have HBD := hideIt hb
  clear hb
  by_cases hc : c < 0
  · have HP : Hid (pickV c n = -(c + 1).tmod n) := by unfold Hid pickV; rw [if_pos hc, ← Int.neg_tmod, Int.tmod_eq_emod_of_nonneg (by omega)]
    go_enter Tryz.func26, Tryz.ntmps26
    go_wp2
    go_ret
    exact ⟨⟨_, ret_int HP.out.symm, HBD.out⟩, rfl⟩
  · have HP : Hid (pickV c n = c % n) := by unfold Hid pickV; rw [if_neg hc]
    go_enter Tryz.func26, Tryz.ntmps26
    go_wp2
    go_ret
    exact ⟨⟨_, ret_int HP.out.symm, HBD.out⟩, rfl⟩

set_option maxRecDepth 100000 in
set_option maxHeartbeats 6400000 in
theorem above_any (v sv : Value) (ns : List Nv) (sz : List Int) (f : Int) (B : Nat) (w : World) (h : NS w B v ns) (hn1 : 1 ≤ ns.length) (hn : ns.length ≤ 200) (hne : ∀ i x, 0 < i → ns[i]? = some x → x.n.ks ≠ []) (hf0 : 0 ≤ f) (hf1 : f ≤ 1000)
    (hs : Rd w sv sz) (hsl : sz.length ≤ 17592186044416) (hsb : ∀ x ∈ sz, I64 x) (hlv : ∀ x, ns[0]? = some x → 0 ≤ x.n.lv ∧ x.n.lv ≤ 1000) :
    Calls Tryz.prog 25 #[v, .int .i64 f, sv] w fun e w' => AboveR ns f w w' e := by
  obtain ⟨i0, hi0, hz0, hz1, hz2⟩ := info_parts infoInt
  obtain ⟨j0, hj0, hy0, hy1, hy2⟩ := info_parts infoNode
  have CB := hideIt (bounds_any v ns B w h hn hne)
  have HNS := hideIt h
  have HS := hideIt hs
  have HSB := hideIt hsb
  obtain ⟨g, cap, rfl⟩ := h.form (by omega)
  obtain ⟨asz, csz, rfl⟩ := hs.len
  obtain ⟨x0, hx0⟩ : ∃ x, ns[0]? = some x := ⟨_, List.getElem?_eq_getElem (by omega)⟩
  obtain ⟨lv, hlve⟩ : ∃ y, x0.n.lv = y := ⟨_, rfl⟩
  have hlv' := hlv x0 hx0
  rw [hlve] at hlv'
  obtain ⟨hlv0, hlv1⟩ := hlv'
  have HLV : Hid (((ns[0]?.map fun x => x.n.lv).getD 0) = lv) := by unfold Hid; rw [hx0]; exact hlve
  have HC0 := hideIt (fun W (hb : Below w.heap.size w W) => ((h.below hb).at 0 x0 hx0).1.1)
  rw [hlve] at HC0
  obtain ⟨n, hnn⟩ : ∃ n, ns.length = n := ⟨_, rfl⟩
  obtain ⟨m, hm⟩ : ∃ m, sz.length = m := ⟨_, rfl⟩
  have HN := hideIt hnn
  have HM := hideIt hm
  rw [hnn] at hn hn1 HNS CB ⊢
  rw [hm] at HS hsl ⊢
  have HR : Hid (∀ w' e, (∃ v ms, e = Ending.returned v ∧ M w w.heap.size w' (.row 67 5 v ms.length (ncells ms) :: nrows ms) ∧ Abv ns f lv ms n) → AboveR ns f w w' e) := by
    intro w' e hh
    unfold AboveR
    rw [HLV.out, HN.out]
    exact hh
  clear h hne hs hsb hnn hm hlv hx0 hlve
  go_enter Tryz.func25, Tryz.ntmps25
  go_wp2_with fail
  refine CB.out.mono ?_
  rintro e w1 ⟨bv, rfl, hb⟩
  obtain ⟨ba, bc, rfl⟩ := As.form0 (hb.get (i := 0) rfl)
  have H1 := hideIt hb
  clear hb CB
  go_wp2
  go_loopw [8, 9, 10] (fun o a i wr => ∃ (p c : Nat) (ms : List Nv), p ≤ n ∧ ms.length ≤ p ∧ c = ms.length ∧ a = .int .i64 p ∧ i = .int .i64 c ∧ Hid (M w w.heap.size wr (.row 67 5 o ms.length (ncells ms) :: (nrows ms ++ [.row 3 1 (.slice ba n bc) n (ints (bnds ns))]))) ∧ Hid (Abv ns f lv ms p)) (fun _ a _ _ => n - (intOf a).toNat)
  case atStart => exact ⟨0, 0, [], Nat.zero_le _, Nat.zero_le _, rfl, rfl, rfl, M.consNil H1.out, Abv.nil _ _ _⟩
  case round =>
    obtain ⟨p, c, ms, hp, hmp, hc, rfl, rfl, hM, hI⟩ := hrel
    obtain ⟨ao, co, rfl⟩ := As.form0 (hM.out.get (i := 0) rfl)
    have hbl := hM.out.bl
    have hsz := hM.out.sz
    have HC := hideIt hc
    have hc200 : c ≤ 200 := by omega
    clear hc
    by_cases hlt : p < n
    · have hpn : (p : Int) < (n : Int) := by omega
      go_upto_if 25 with fail
      go_cut [11] from 17 to 93 (fun t wx => ∃ q : Int, Hid (I64 q) ∧ t = .int .i64 q ∧ wx = wr)
      case first =>
        by_cases hm0 : 0 < m
        · have hm1 : (0 : Int) < (m : Int) := by omega
          have hmz : ((m : Int) == 0) = false := by rw [beq_eq_false_iff_ne]; omega
          obtain ⟨hr1, hr2⟩ := rem_small c m hm0
          obtain ⟨b1, o1, rfl, -, x1⟩ := HS.out.elem (c % m) hr2
          have y1 := x1 wr hbl
          have hkk : (0 : Int) ≤ ((c % m : Nat) : Int) := by omega
          have hkl : ((c % m : Nat) : Int) < (m : Int) := by omega
          obtain ⟨q, hq⟩ : ∃ q, sz[c % m]?.getD 0 = q := ⟨_, rfl⟩
          have HQ : Hid (I64 q) := by rw [← hq]; exact HSB.out _ (mem_at (by rw [HM.out]; exact hr2))
          rw [hq] at y1
          clear x1 hq
          go_wp2
          go_meet
          case rel => exact ⟨q, HQ.out, rfl, rfl⟩
        · have hm0 : m = 0 := by omega
          subst hm0
          go_wp2
          go_meet
          case rel => exact ⟨5, by unfold Hid I64; omega, rfl, rfl⟩
      case rest =>
        obtain ⟨q, hq, rfl, rfl⟩ := hcut
        have c0 := HC0.out _ hbl
        rw [Nat.zero_mul] at c0
        go_wp2_with fail
        refine (pick_big q 1048576 _ hq.out (by omega) (by omega)).mono ?_
        rintro e wd ⟨⟨r, rfl, hr0, hr1⟩, rfl⟩
        clear hq
        have A0 := hideIt (M.rowNil (e := 3) (z := 1) (M.rowNil (e := 3) (z := 1) (hM.out.alloc #[.int .i64 (lv + 1), .int .i64 0, .int .i64 0, .slice none 0 0, .slice none 0 0] 67)))
        go_wp2
        obtain ⟨d, hd⟩ : ∃ d : Nat, 2 + r % 14 = (d : Int) := ⟨(2 + r % 14).toNat, by omega⟩
        have hd2 : 2 ≤ d ∧ d ≤ 15 := by omega
        rw [hd]
        obtain ⟨gl, hgl⟩ : ∃ g, wd.heap.size = g := ⟨_, rfl⟩
        rw [hgl] at A0 ⊢
        clear hgl hd
        go_loopw [9, 14] (fun a j wx => ∃ (t s l : Nat) (A : List Nat) (kv vv : Value), Hid (s = p + t) ∧ s ≤ n ∧ t ≤ d ∧ l ≤ t ∧ Hid (A.length = l) ∧ a = .int .i64 s ∧ j = .int .i64 t ∧ Hid (M w w.heap.size wx (.blk gl #[.int .i64 (lv + 1), .int .i64 0, .int .i64 0, kv, vv] 67 :: .row 3 1 kv l (ints (A.map (bnd ns))) :: .row 3 1 vv l (ints (A.map fun (a : Nat) => f + (a : Int))) :: .row 67 5 (.slice ao ms.length co) ms.length (ncells ms) :: (nrows ms ++ [.row 3 1 (.slice ba n bc) n (ints (bnds ns))]))) ∧ Hid ((0 < t → ∃ r, A = p :: r) ∧ (t = 0 → A = []) ∧ A.Pairwise (· < ·) ∧ ∀ a ∈ A, a < s)) (fun _ j _ => d - (intOf j).toNat)
        case atStart => exact ⟨0, p, 0, [], .slice none 0 0, .slice none 0 0, rfl, by omega, Nat.zero_le _, Nat.zero_le _, rfl, rfl, rfl, A0.out, ⟨fun h => by omega, fun _ => rfl, List.Pairwise.nil, fun a h => by cases h⟩⟩
        case round =>
          obtain ⟨t, s, l, A, kv, vv, HPT, ht1, ht2, hl, HL, rfl, rfl, hT, hJ⟩ := hrel
          obtain ⟨ka, kc, rfl⟩ := As.form0 (hT.out.get (i := 1) rfl)
          obtain ⟨va, vc, rfl⟩ := As.form0 (hT.out.get (i := 2) rfl)
          have q3 := hT.out.cell (i := 0) rfl 3 (.slice ka l kc) rfl
          have f3 := hT.out.free (i := 0) rfl 3
          have q4 := hT.out.cell (i := 0) rfl 4 (.slice va l vc) rfl
          have f4 := hT.out.free (i := 0) rfl 4
          have hszx := hT.out.lt (i := 0) rfl
          by_cases hgo : t < d ∧ s < n
          · obtain ⟨hgo1, hgo2⟩ := hgo
            have g1 : (t : Int) < (d : Int) := by omega
            have g2 : (s : Int) < (n : Int) := by omega
            have g3 : (0 : Int) ≤ (s : Int) := by omega
            go_upto_region 16 with fail
            go_cut [70] from 44 to 89 (fun u wy => ∃ b : Bool, u = .bool b ∧ (t = 0 → b = true) ∧ wy = wr)
            case first =>
              by_cases ht0 : t = 0
              · subst ht0
                go_wp2
                go_meet
                case rel => exact ⟨_, rfl, fun _ => rfl, rfl⟩
              · have ht3 : ((t : Int) == 0) = false := by rw [beq_eq_false_iff_ne]; omega
                have HT0 := hideIt ht0
                clear ht0
                go_wp2
                all_goals
                  go_meet
                  case rel => exact ⟨_, rfl, fun h => absurd h HT0.out, rfl⟩
            case rest =>
              obtain ⟨b, rfl, hb0, rfl⟩ := hcut
              cases b
              · have ht0 : t ≠ 0 := fun e => by have := hb0 e; cases this
                go_wp2
                go_roundw
                case rel => exact ⟨t + 1, s + 1, l, A, _, _, by unfold Hid; have := HPT.out; omega, by omega, by omega, by omega, HL.out, by go_num, by go_num, hT.out, ⟨fun _ => hJ.out.1 (by omega), fun h => by omega, hJ.out.2.2.1, fun a ha => by have := hJ.out.2.2.2 a ha; omega⟩⟩
                case measure => simp [intOf]; omega
              · clear hb0
                have hbrow : As.holds _ w.heap.size (.row 3 1 (.slice ba n bc) n (ints (bnds ns))) := hT.out.holds _ (by simp)
                obtain ⟨bb, bc', hbv⟩ := As.form hbrow (by omega)
                cases hbv
                have hbk := World.ownsRow.cellAt hbrow s (by omega)
                have e2 : (ints (bnds ns))[s]? = some (.int .i64 (bnd ns s)) := by
                  have e := bnds_at ns s (by rw [HN.out]; exact hgo2)
                  have e2 : (bnds ns)[s]? = some (bnd ns s) := by rw [List.getElem?_eq_getElem (by rw [bnds_len, HN.out]; exact hgo2)] at e ⊢; simpa using e
                  simp [ints, e2]
                rw [e2] at hbk
                obtain ⟨y, hy⟩ : ∃ y, bnd ns s = y := ⟨_, rfl⟩
                rw [hy] at hbk
                have HY := hideIt hy
                clear hbrow e2 hy
                go_upto_region 17 with fail
                go_cut [] from 44 to 89 (fun wy => ∃ kv', Hid (M w w.heap.size wy (.blk gl #[.int .i64 (lv + 1), .int .i64 0, .int .i64 0, kv', (.slice va l vc)] 67 :: .row 3 1 kv' (l + 1) (ints ((A ++ [s]).map (bnd ns))) :: .row 3 1 (.slice va l vc) l (ints (A.map fun (a : Nat) => f + (a : Int))) :: .row 67 5 (.slice ao ms.length co) ms.length (ncells ms) :: (nrows ms ++ [.row 3 1 (.slice (some ⟨bb, 0, none⟩) n bc) n (ints (bnds ns))]))))
                case first =>
                  go_region_law (refine step_append_lies _ rfl _ _ 22 rfl w.heap.size 3 i0 (.int .i64 0) 1 8 Tryz.underlying22 hi0 hz0 hz1 hz2 rfl (by decide) _ l (ints (A.map (bnd ns))) rfl (World.ownsRow.alloc (hT.out.get (i := 1) rfl) _) ⟨_, 0, none⟩ 1 1 [.int .i64 y] rfl rfl (news_one _ _ _) (by simp [Value.oneCell']) (by omega) (by unfold maxLen; omega) (by omega) (by have := hT.out.sz; simp at this ⊢; omega) _ rfl ?_; intro g cap w1 hown hgrow hat hlt1; rw [← ints_snoc, ← HY.out, ← map_snoc1] at hown; have hm := (hT.out.allocd _).drew.lies (i := 1) rfl hown hgrow hat; clear q3 f3 hown hgrow hat; have q3 := hm.cell (i := 0) rfl 3 (.slice ka l kc) rfl; have f3 := hm.free (i := 0) rfl 3; have H1 := hideIt (hm.store (i := 0) (j := 3) rfl (.slice (some ⟨g, 0, none⟩) (l + 1) cap) rfl); clear hm)
                  all_goals
                    go_wp2
                    go_meet
                    case rel => exact ⟨_, H1.out⟩
                case rest =>
                  obtain ⟨kv', hT2⟩ := hcut
                  clear hT q3 f3 q4 f4 hbk
                  obtain ⟨ka', kc', rfl⟩ := As.form0 (hT2.out.get (i := 1) rfl)
                  have q4 := hT2.out.cell (i := 0) rfl 4 (.slice va l vc) rfl
                  have f4 := hT2.out.free (i := 0) rfl 4
                  have hszy := hT2.out.lt (i := 0) rfl
                  go_wp2_with (at_builtin; refine wpList_append_lies _ rfl _ _ 22 rfl w.heap.size 3 i0 (.int .i64 0) 1 8 Tryz.underlying22 hi0 hz0 hz1 hz2 rfl (by decide) _ l (ints (A.map fun (a : Nat) => f + (a : Int))) rfl (World.ownsRow.alloc (hT2.out.get (i := 2) rfl) _) ⟨_, 0, none⟩ 1 1 [.int .i64 (f + (s : Int))] rfl rfl (news_one _ _ _) (by simp [Value.oneCell']) (by omega) (by unfold maxLen; omega) (by omega) (by have := hT2.out.sz; simp at this ⊢; omega) _ rfl ?_; intro g cap w1 hown hgrow hat hlt1; rw [← ints_snoc, ← map_snoc2] at hown; have hm := (hT2.out.allocd _).lies (i := 2) rfl hown hgrow hat; clear q4 f4 hown hgrow hat; have q4 := hm.cell (i := 0) rfl 4 (.slice va l vc) rfl; have f4 := hm.free (i := 0) rfl 4; have H1 := hideIt (hm.store (i := 0) (j := 4) rfl (.slice (some ⟨g, 0, none⟩) (l + 1) cap) rfl); clear hm)
                  go_roundw
                  case rel =>
                    refine ⟨t + 1, s + 1, l + 1, A ++ [s], _, _, by unfold Hid; have := HPT.out; omega, by omega, by omega, by omega, by unfold Hid; rw [List.length_append, HL.out]; rfl, by go_num, by go_num, H1.out, ⟨fun _ => ?_, fun h => by omega, ?_, fun a ha => ?_⟩⟩
                    · rcases Nat.eq_zero_or_pos t with h0 | h0
                      · rw [hJ.out.2.1 h0]
                        exact ⟨[], by have := HPT.out; rw [h0] at this; simp [this]⟩
                      · obtain ⟨r, hr⟩ := hJ.out.1 h0
                        exact ⟨r ++ [s], by rw [hr]; rfl⟩
                    · refine List.pairwise_append.2 ⟨hJ.out.2.2.1, List.pairwise_singleton _ _, fun a ha b hb => ?_⟩
                      rw [List.mem_singleton] at hb; subst hb
                      exact hJ.out.2.2.2 a ha
                    · rcases List.mem_append.1 ha with ha | ha
                      · have := hJ.out.2.2.2 a ha; omega
                      · rw [List.mem_singleton] at ha; omega
                  case measure => simp [intOf]; omega
          · have ht0 : 1 ≤ t := by have := HPT.out; omega
            have q0 := hT.out.cell (i := 0) rfl 0 (.int .i64 (lv + 1)) rfl
            have q1 := hT.out.cell (i := 0) rfl 1 (.int .i64 0) rfl
            have q2 := hT.out.cell (i := 0) rfl 2 (.int .i64 0) rfl
            have hfin : ∀ (v : Value) (wf : World), M w w.heap.size wf (.blk gl #[.int .i64 (lv + 1), .int .i64 0, .int .i64 0, .slice ka l kc, .slice va l vc] 67 :: .row 3 1 (.slice ka l kc) l (ints (A.map (bnd ns))) :: .row 3 1 (.slice va l vc) l (ints (A.map fun (a : Nat) => f + (a : Int))) :: .row 67 5 v (ms.length + 1) (ncells ms ++ [.int .i64 (lv + 1), .int .i64 0, .int .i64 0, .slice ka l kc, .slice va l vc]) :: (nrows ms ++ [.row 3 1 (.slice ba n bc) n (ints (bnds ns))])) → M w w.heap.size wf (.row 67 5 v (ms ++ [(⟨⟨lv + 1, 0, 0, A.map (bnd ns), A.map fun (a : Nat) => f + (a : Int)⟩, .slice ka l kc, .slice va l vc⟩ : Nv)]).length (ncells (ms ++ [(⟨⟨lv + 1, 0, 0, A.map (bnd ns), A.map fun (a : Nat) => f + (a : Int)⟩, .slice ka l kc, .slice va l vc⟩ : Nv)])) :: (nrows (ms ++ [(⟨⟨lv + 1, 0, 0, A.map (bnd ns), A.map fun (a : Nat) => f + (a : Int)⟩, .slice ka l kc, .slice va l vc⟩ : Nv)]) ++ [.row 3 1 (.slice ba n bc) n (ints (bnds ns))])) := by
              intro v wf h
              have h2 := h.push2
              rw [ncells_snoc, nrows_snoc, List.length_append]
              simp only [Nv.cells, Nv.rows, List.length_map, HL.out]
              exact h2
            have HF := hideIt hfin
            have HAB := hideIt (hI.out.snoc (q := s) (x := (⟨⟨lv + 1, 0, 0, A.map (bnd ns), A.map fun (a : Nat) => f + (a : Int)⟩, .slice ka l kc, .slice va l vc⟩ : Nv)) (A := A) ⟨rfl, rfl, rfl, hJ.out.1 (by omega), hJ.out.2.2.1, hJ.out.2.2.2⟩)
            clear hfin
            by_cases hgo1 : t < d
            · have g1 : (t : Int) < (d : Int) := by omega
              have g2 : (n : Int) ≤ (s : Int) := by omega
              clear hgo
              go_wp2_with (at_builtin; refine wpList_append_lies _ rfl _ _ 63 rfl w.heap.size 67 j0 (.agg #[.int .i64 0, .int .i64 0, .int .i64 0, .slice none 0 0, .slice none 0 0]) 5 72 Tryz.underlying63 hj0 hy0 hy1 hy2 rfl (by decide) _ ms.length (ncells ms) rfl (World.ownsRow.alloc (hT.out.get (i := 3) rfl) _) ⟨_, 0, none⟩ 1 1 [.int .i64 (lv + 1), .int .i64 0, .int .i64 0, .slice ka l kc, .slice va l vc] rfl rfl (World.news_of_block (heap_alloc_new _ _)) (by simp [Value.oneCell']) (by omega) (by unfold maxLen; omega) (by omega) (by have := hT.out.sz; simp at this ⊢; omega) _ rfl ?_; intro g cap w1 hown hgrow hat hlt1; have H1 := hideIt ((hT.out.allocd _).lies (i := 3) rfl hown hgrow hat); clear hown hgrow hat)
              go_roundw
              case rel => exact ⟨s, c + 1, ms ++ [(⟨⟨lv + 1, 0, 0, A.map (bnd ns), A.map fun (a : Nat) => f + (a : Int)⟩, .slice ka l kc, .slice va l vc⟩ : Nv)], by omega, by rw [List.length_append]; have := HPT.out; simp; omega, by rw [List.length_append, HC.out]; rfl, rfl, by go_num, HF.out _ _ H1.out, HAB.out⟩
              case measure => simp [intOf]; have := HPT.out; omega
            · have g1 : (d : Int) ≤ (t : Int) := by omega
              clear hgo
              go_wp2_with (at_builtin; refine wpList_append_lies _ rfl _ _ 63 rfl w.heap.size 67 j0 (.agg #[.int .i64 0, .int .i64 0, .int .i64 0, .slice none 0 0, .slice none 0 0]) 5 72 Tryz.underlying63 hj0 hy0 hy1 hy2 rfl (by decide) _ ms.length (ncells ms) rfl (World.ownsRow.alloc (hT.out.get (i := 3) rfl) _) ⟨_, 0, none⟩ 1 1 [.int .i64 (lv + 1), .int .i64 0, .int .i64 0, .slice ka l kc, .slice va l vc] rfl rfl (World.news_of_block (heap_alloc_new _ _)) (by simp [Value.oneCell']) (by omega) (by unfold maxLen; omega) (by omega) (by have := hT.out.sz; simp at this ⊢; omega) _ rfl ?_; intro g cap w1 hown hgrow hat hlt1; have H1 := hideIt ((hT.out.allocd _).lies (i := 3) rfl hown hgrow hat); clear hown hgrow hat)
              go_roundw
              case rel => exact ⟨s, c + 1, ms ++ [(⟨⟨lv + 1, 0, 0, A.map (bnd ns), A.map fun (a : Nat) => f + (a : Int)⟩, .slice ka l kc, .slice va l vc⟩ : Nv)], by omega, by rw [List.length_append]; have := HPT.out; simp; omega, by rw [List.length_append, HC.out]; rfl, rfl, by go_num, HF.out _ _ H1.out, HAB.out⟩
              case measure => simp [intOf]; have := HPT.out; omega
    · obtain rfl : p = n := by omega
      go_wp2
      go_ret
      exact HR.out _ _ ⟨_, ms, rfl, hM.out.sub (List.Sublist.cons_cons _ (List.sublist_append_left _ _)), hI.out⟩
end Go.Proofs.YtajobgmnmbnhiaaGreatDoor.Sap

/- WHAT IS PROVED HERE: how an operation of saplingkeep lies in memory. Conditions: none. -/
namespace Go.Proofs.YtajobgmnmbnhiaaGreatDoor.Sap
open Go.RowKit

theorem infoDeed : (Tryz.prog.info? 40).map (fun i => (i.zero, i.size, i.bytes)) = some (some (.pointer none), 1, 8) := by kernel_rfl
/-- The cells of an operation that is under way or has ended. -/
def DC (k key v : Int) (f : ByteArray) (tv kv : Value) (rf en : Bool) (er : Int) (fd : Bool) (va pt : Int) (ks vs cs : Value) : Array Value := #[.int .i64 k, .int .i64 key, .int .i64 v, .string f, tv, kv, .bool rf, .bool en, .int .i64 er, .bool fd, .int .i64 va, .int .i64 pt, ks, vs, cs]

theorem M.bne {w0 w : World} {B i j b g : Nat} {l : List As} {c d : Array Value} {t u : TypeId} (h : M w0 B w l) (hi : l[i]? = some (.blk b c t)) (hj : l[j]? = some (.blk g d u)) (hij : i < j) : b ≠ g := by
  intro e
  subst e
  have hil : i < l.length := (List.getElem?_eq_some_iff.1 hi).1
  have hjl : j < l.length := (List.getElem?_eq_some_iff.1 hj).1
  have hia := (List.getElem?_eq_some_iff.1 hi).2
  have hja := (List.getElem?_eq_some_iff.1 hj).2
  have := List.pairwise_iff_getElem.1 h.apart i j hil hjl hij
  rw [hia, hja] at this
  exact this b rfl rfl
end Go.Proofs.YtajobgmnmbnhiaaGreatDoor.Sap

/- WHAT IS PROVED HERE: small laws of the account of memory, for saplingkeep's move; what Tell may answer. Conditions: none. -/
namespace Go.Proofs.YtajobgmnmbnhiaaGreatDoor.Sap
open Go.RowKit

/-- What Tell answers: it goes on, or it has ended. -/
def Out : Type := St ⊕ (Bool × Int × Int × List Int × List Int × List (Int × Int))
def Out.on (s : St) : Out := Sum.inl s
def Out.fin (fd : Bool) (va pt : Int) (ks vs : List Int) (cs : List (Int × Int)) : Out := Sum.inr (fd, va, pt, ks, vs, cs)
theorem Out.is (o : Out) : (∃ s, o = .on s) ∨ ∃ fd va pt ks vs cs, o = .fin fd va pt ks vs cs := by
  rcases o with s | x
  · exact .inl ⟨s, rfl⟩
  · exact .inr ⟨x.1, x.2.1, x.2.2.1, x.2.2.2.1, x.2.2.2.2.1, x.2.2.2.2.2, rfl⟩
theorem Out.on_inj {s s' : St} (h : Out.on s = Out.on s') : s = s' := Sum.inl.inj h
theorem Out.on_ne {s : St} {fd : Bool} {va pt : Int} {ks vs : List Int} {cs : List (Int × Int)} (h : Out.on s = Out.fin fd va pt ks vs cs) : False := by
  cases (show (Sum.inl s : St ⊕ (Bool × Int × Int × List Int × List Int × List (Int × Int))) = Sum.inr (fd, va, pt, ks, vs, cs) from h)
theorem Out.fin_inj {fd fd' : Bool} {va pt va' pt' : Int} {ks vs ks' vs' : List Int} {cs cs' : List (Int × Int)} (h : Out.fin fd va pt ks vs cs = Out.fin fd' va' pt' ks' vs' cs') : fd = fd' ∧ va = va' ∧ pt = pt' ∧ ks = ks' ∧ vs = vs' ∧ cs = cs' := by
  have := Sum.inr.inj (show (Sum.inr (fd, va, pt, ks, vs, cs) : St ⊕ (Bool × Int × Int × List Int × List Int × List (Int × Int))) = Sum.inr (fd', va', pt', ks', vs', cs') from h)
  simp only [Prod.mk.injEq] at this
  exact this
def cutc (cs : List (Int × Int)) : List Value := cs.flatMap fun c => [.int .i64 c.1, .int .i64 c.2]
def TellR (o : Out) (w w' : World) (e : Ending) : Prop :=
  match o with
  | .inl s => ∃ c : ByteArray, e = .returned (.tuple #[.string c, .agg #[.int .i64 0, .bool false, .int .i64 0, .int .i64 0, .slice none 0 0, .slice none 0 0, .slice none 0 0], .bool false, .int .i64 0]) ∧ c.data.toList = frT s ∧ Below w.heap.size w w'
  | .inr (fd, va, pt, ks, vs, cs) => ∃ kv vv cv, e = .returned (.tuple #[.string ⟨#[]⟩, .agg #[.int .i64 0, .bool fd, .int .i64 va, .int .i64 pt, kv, vv, cv], .bool true, .int .i64 0]) ∧ M w w.heap.size w' [.row 3 1 kv ks.length (ints ks), .row 3 1 vv vs.length (ints vs), .row 76 2 cv cs.length (cutc cs)]

theorem M.rowCell {w0 w : World} {B i g n cap : Nat} {l : List As} {e : TypeId} {xs : List Value} (h : M w0 B w l) (hi : l[i]? = some (.row e 1 (.slice (some ⟨g, 0, none⟩) n cap) n xs)) (j : Nat) (v : Value) (hv : xs[j]? = some v) : w.cell? ⟨g, j, none⟩ = some v := by
  have hr := h.get hi
  have hl := hr.1
  have hj := (List.getElem?_eq_some_iff.1 hv).1
  rw [World.ownsRow.cellAt hr j (by omega)]; exact hv
theorem M.store7 {w0 w : World} {B i b : Nat} {l : List As} {c0 c1 c2 c3 c4 c5 c6 : Value} {t : TypeId} (h : M w0 B w l) (hi : l[i]? = some (.blk b #[c0, c1, c2, c3, c4, c5, c6] t)) (a0 a1 a2 a3 a4 a5 a6 : Value) :
    M w0 B (((((((w.setCell ⟨b, 0, none⟩ a0).setCell ⟨b, 1, none⟩ a1).setCell ⟨b, 2, none⟩ a2).setCell ⟨b, 3, none⟩ a3).setCell ⟨b, 4, none⟩ a4).setCell ⟨b, 5, none⟩ a5).setCell ⟨b, 6, none⟩ a6) (l.set i (.blk b #[a0, a1, a2, a3, a4, a5, a6] t)) := by
  have hl : i < l.length := (List.getElem?_eq_some_iff.1 hi).1
  have e : ∀ (a : As), (l.set i a)[i]? = some a := fun a => by rw [List.getElem?_set, if_pos rfl, if_pos hl]
  have s0 := h.store (j := 0) hi a0 (c' := #[a0, c1, c2, c3, c4, c5, c6]) rfl
  have s1 := s0.store (j := 1) (e _) a1 (c' := #[a0, a1, c2, c3, c4, c5, c6]) rfl
  rw [List.set_set] at s1
  have s2 := s1.store (j := 2) (e _) a2 (c' := #[a0, a1, a2, c3, c4, c5, c6]) rfl
  rw [List.set_set] at s2
  have s3 := s2.store (j := 3) (e _) a3 (c' := #[a0, a1, a2, a3, c4, c5, c6]) rfl
  rw [List.set_set] at s3
  have s4 := s3.store (j := 4) (e _) a4 (c' := #[a0, a1, a2, a3, a4, c5, c6]) rfl
  rw [List.set_set] at s4
  have s5 := s4.store (j := 5) (e _) a5 (c' := #[a0, a1, a2, a3, a4, a5, c6]) rfl
  rw [List.set_set] at s5
  have s6 := s5.store (j := 6) (e _) a6 (c' := #[a0, a1, a2, a3, a4, a5, a6]) rfl
  rw [List.set_set] at s6
  exact s6
theorem M.rowFree {w0 w : World} {B i g n cap : Nat} {l : List As} {e : TypeId} {xs : List Value} (h : M w0 B w l) (hi : l[i]? = some (.row e 1 (.slice (some ⟨g, 0, none⟩) n cap) n xs)) (j : Nat) : w.frozen? ⟨g, j, none⟩ = false := World.ownsRow.frozenAt (h.get hi) j
end Go.Proofs.YtajobgmnmbnhiaaGreatDoor.Sap
