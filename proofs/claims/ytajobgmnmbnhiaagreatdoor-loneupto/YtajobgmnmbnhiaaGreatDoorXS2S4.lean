/- WHAT IS PROVED HERE: saplingkeep.leaves cuts rising keys into leaves. Conditions: at most 120 keys; the sizes are ints. -/
import Derived.Test.YtajobgmnmbnhiaaGreatDoorXS1T9
import Derived.Test.YtajobgmnmbnhiaaGreatDoorR3
import Derived.Deep.AppendLies
import Derived.Deep.RegionLaw
namespace Go.Proofs.YtajobgmnmbnhiaaGreatDoor.Sap
open Go.RowKit

theorem infoNode : (Tryz.prog.info? 67).map (fun i => (i.zero, i.size, i.bytes)) = some (some (.agg #[.int .i64 0, .int .i64 0, .int .i64 0, .slice none 0 0, .slice none 0 0]), 5, 72) := by kernel_rfl

/-- A node, and the two slices that it has in memory. -/
structure Nv where
  n : Nd
  kv : Value
  vv : Value
def Nv.cells (x : Nv) : List Value := [.int .i64 x.n.lv, .int .i64 x.n.lk, .int .i64 x.n.hi, x.kv, x.vv]
def Nv.rows (x : Nv) : List As := [.row 3 1 x.kv x.n.ks.length (ints x.n.ks), .row 3 1 x.vv x.n.vs.length (ints x.n.vs)]
def ncells (l : List Nv) : List Value := l.flatMap Nv.cells
def nrows (l : List Nv) : List As := l.flatMap Nv.rows
theorem ncells_snoc (l : List Nv) (x : Nv) : ncells (l ++ [x]) = ncells l ++ x.cells := by simp [ncells]
theorem nrows_snoc (l : List Nv) (x : Nv) : nrows (l ++ [x]) = nrows l ++ x.rows := by simp [nrows]
/-- Leaves in the making. -/
def LeafL (ns : List Nv) : Prop := ∀ x ∈ ns, x.n.lv = 0 ∧ x.n.ks ≠ [] ∧ x.n.ks.length = x.n.vs.length
def keysOf (ns : List Nv) : List Int := (ns.map fun x => x.n.ks).flatten
def valsOf (ns : List Nv) : List Int := (ns.map fun x => x.n.vs).flatten

theorem M.lies {w0 w w' : World} {B i g cap : Nat} {l : List As} {e : TypeId} {z n m : Nat} {v : Value} {xs ys : List Value} (h : M w0 B w l) (hi : l[i]? = some (.row e z v n xs)) (ho : w'.ownsRow B e z (.slice (some ⟨g, 0, none⟩) m cap) m ys) (hg : w.grownBy w' v.ownBlock)
    (hat : v.ownBlock = some g ∨ g = w.heap.size) : M w0 B w' (l.set i (.row e z (.slice (some ⟨g, 0, none⟩) m cap) m ys)) :=
  h.append hi ho hg (hat.imp (fun e => e.symm) (fun e => by rw [e]; rfl))
theorem keysOf_snoc (ns : List Nv) (x : Nv) : keysOf (ns ++ [x]) = keysOf ns ++ x.n.ks := by simp [keysOf]
theorem leafL_snoc {ns : List Nv} {L ks vs : List Int} {kv vv : Value} {p t s : Nat} (h : LeafL ns) (hk : keysOf ns = L.take p) (h0 : 1 ≤ ks.length) (hl : ks.length = vs.length) (he : ks = (L.drop p).take t) (hs : s = p + t) :
    LeafL (ns ++ [⟨⟨0, 0, 0, ks, vs⟩, kv, vv⟩]) ∧ keysOf (ns ++ [⟨⟨0, 0, 0, ks, vs⟩, kv, vv⟩]) = L.take s := by
  refine ⟨fun x hx => ?_, ?_⟩
  · rcases List.mem_append.1 hx with hx | hx
    · exact h x hx
    · rw [List.mem_singleton] at hx; subst hx
      exact ⟨rfl, fun e => by simp only at e; rw [e] at h0; simp at h0, hl⟩
  · rw [keysOf_snoc, hk, hs, List.take_add, he]
/-- The leaf that is being made comes to the others. -/
theorem M.push {w0 w : World} {B : Nat} {b : As} {k v : As} {o : As} {l : List As} (h : M w0 B w (b :: k :: v :: o :: l)) : M w0 B w (o :: (l ++ [k, v])) := by
  have h1 : M w0 B w (k :: v :: o :: l) := h.sub (List.sublist_cons_self _ _)
  refine h1.perm ?_
  have e1 : (o :: (l ++ [k, v])).Perm ((o :: l) ++ [k, v]) := by simp
  exact e1.trans List.perm_append_comm


/-- What leaves answers: the leaves, and how they hold the keys. -/
def LeavesR (L : List Int) (w w' : World) (e : Ending) : Prop :=
  ∃ v ns, e = .returned v ∧ M w w.heap.size w' (.row 67 5 v ns.length (ncells ns) :: nrows ns) ∧ keysOf ns = L ∧ ((LeafL ns ∧ ns ≠ []) ∨ (L = [] ∧ ns = [⟨⟨0, 0, 0, [], []⟩, .slice none 0 0, .slice none 0 0⟩]))

set_option maxRecDepth 100000 in
set_option maxHeartbeats 6400000 in
theorem leaves_any (kv sv : Value) (L sz : List Int) (w : World) (hk : Rd w kv L) (hs : Rd w sv sz) (hL : L.length ≤ 120) (hLb : ∀ x ∈ L, 1 ≤ x ∧ x ≤ 9999) (hsl : sz.length ≤ 17592186044416) (hsb : ∀ x ∈ sz, I64 x) :
    Calls Tryz.prog 21 #[kv, sv] w fun e w' => LeavesR L w w' e := by
  obtain ⟨i0, hi0, hz0, hz1, hz2⟩ := info_parts infoInt
  obtain ⟨j0, hj0, hy0, hy1, hy2⟩ := info_parts infoNode
  have HK := hideIt hk
  have HS := hideIt hs
  have HLB := hideIt hLb
  have HSB := hideIt hsb
  obtain ⟨ak, ck, rfl⟩ := hk.len
  obtain ⟨asz, csz, rfl⟩ := hs.len
  obtain ⟨n, hn⟩ : ∃ n, L.length = n := ⟨_, rfl⟩
  obtain ⟨m, hm⟩ : ∃ m, sz.length = m := ⟨_, rfl⟩
  rw [hn] at HK hL ⊢
  rw [hm] at HS hsl ⊢
  have HN := hideIt hn
  have HM := hideIt hm
  clear hk hs hLb hsb hn hm
  go_enter Tryz.func21, Tryz.ntmps21
  go_wp2
  go_loopw [5, 6, 7] (fun o a i wr => ∃ (p : Nat) (ns : List Nv), p ≤ n ∧ ns.length ≤ p ∧ a = .int .i64 p ∧ i = .int .i64 ns.length ∧ Hid (M w w.heap.size wr (.row 67 5 o ns.length (ncells ns) :: nrows ns)) ∧ Hid (LeafL ns ∧ keysOf ns = L.take p)) (fun _ a _ _ => n - (intOf a).toNat)
  case atStart => exact ⟨0, [], Nat.zero_le _, Nat.zero_le _, rfl, rfl, M.snocNil (M.start w), ⟨fun _ hx => (List.not_mem_nil hx).elim, rfl⟩⟩
  case round =>
    obtain ⟨p, ns, hp, hnp, rfl, rfl, hM, hI⟩ := hrel
    obtain ⟨ao, co, rfl⟩ := As.form0 (hM.out.get (i := 0) rfl)
    have hbl := hM.out.bl
    have hsz := hM.out.sz
    by_cases hlt : p < n
    · have hpn : (p : Int) < (n : Int) := by omega
      go_upto_if 19 with fail
      go_cut [8] from 11 to 68 (fun t wx => ∃ q : Nat, 1 ≤ q ∧ q ≤ 5 ∧ t = .int .i64 q ∧ wx = wr)
      case first =>
        by_cases hm0 : 0 < m
        · have hm1 : (0 : Int) < (m : Int) := by omega
          have hmz : ((m : Int) == 0) = false := by simp; omega
          obtain ⟨hr1, hr2⟩ := rem_small ns.length m hm0
          obtain ⟨b1, o1, rfl, -, x1⟩ := HS.out.elem (ns.length % m) hr2
          have y1 := x1 wr hbl
          have hkk : (0 : Int) ≤ ((ns.length % m : Nat) : Int) := by omega
          have hkl : ((ns.length % m : Nat) : Int) < (m : Int) := by omega
          clear x1
          go_wp2_with fail
          refine (pick_any _ 5 wr (HSB.out _ (mem_at (by rw [HM.out]; exact hr2))).1 (HSB.out _ (mem_at (by rw [HM.out]; exact hr2))).2 (by omega) (by omega)).mono ?_
          rintro e w' ⟨⟨r, rfl, hr0, hr5⟩, rfl⟩
          go_wp2
          go_meet
          case rel => exact ⟨(1 + r).toNat, by omega, by omega, by go_num, rfl⟩
        · have hm0 : m = 0 := by omega
          subst hm0
          go_wp2
          go_meet
          case rel => exact ⟨1, by omega, by omega, rfl, rfl⟩
      case rest =>
        obtain ⟨q, hq1, hq5, rfl, rfl⟩ := hcut
        have A0 := hideIt (M.rowNil (e := 3) (z := 1) (M.rowNil (e := 3) (z := 1) (hM.out.alloc #[.int .i64 0, .int .i64 0, .int .i64 0, .slice none 0 0, .slice none 0 0] 67)))
        go_wp2
        obtain ⟨gl, hgl⟩ : ∃ g, wc.heap.size = g := ⟨_, rfl⟩
        rw [hgl] at A0 ⊢
        clear hgl
        go_loopw [6, 10] (fun a j wx => ∃ (t s : Nat) (ks vs : List Int) (kv vv : Value), Hid (s = p + t) ∧ s ≤ n ∧ t ≤ q ∧ a = .int .i64 s ∧ j = .int .i64 t ∧ Hid (M w w.heap.size wx (.blk gl #[.int .i64 0, .int .i64 0, .int .i64 0, kv, vv] 67 :: .row 3 1 kv t (ints ks) :: .row 3 1 vv t (ints vs) :: .row 67 5 (.slice ao ns.length co) ns.length (ncells ns) :: nrows ns)) ∧ Hid (ks = (L.drop p).take t ∧ vs.length = t)) (fun _ j _ => q - (intOf j).toNat)
        case atStart => exact ⟨0, p, [], [], .slice none 0 0, .slice none 0 0, rfl, by omega, Nat.zero_le _, rfl, rfl, A0.out, ⟨rfl, rfl⟩⟩
        case round =>
          obtain ⟨t, s, ks, vs, kv, vv, HPT, ht1, ht2, rfl, rfl, hT, hJ⟩ := hrel
          obtain ⟨ka, kc, rfl⟩ := As.form0 (hT.out.get (i := 1) rfl)
          obtain ⟨va, vc, rfl⟩ := As.form0 (hT.out.get (i := 2) rfl)
          have q3 := hT.out.cell (i := 0) rfl 3 (.slice ka t kc) rfl
          have f3 := hT.out.free (i := 0) rfl 3
          have hblx := hT.out.bl
          have hszx := hT.out.lt (i := 0) rfl
          by_cases hgo : t < q ∧ s < n
          · obtain ⟨hgo1, hgo2⟩ := hgo
            have g1 : (t : Int) < (q : Int) := by omega
            have g2 : (s : Int) < (n : Int) := by omega
            have g3 : (0 : Int) ≤ (s : Int) := by omega
            obtain ⟨b1, o1, rfl, -, x1⟩ := HK.out.elem s hgo2
            have y1 := x1 _ hblx
            obtain ⟨x, hx⟩ : ∃ x, L[s]?.getD 0 = x := ⟨_, rfl⟩
            rw [hx] at y1
            have hxb : 1 ≤ x ∧ x ≤ 9999 := by rw [← hx]; exact HLB.out _ (mem_at (by rw [HN.out]; exact hgo2))
            have HX := hideIt hx
            clear x1 hx
            go_upto_region 13 with fail
            go_cut [] from 30 to 64 (fun wy => ∃ kv', Hid (M w w.heap.size wy (.blk gl #[.int .i64 0, .int .i64 0, .int .i64 0, kv', (.slice va t vc)] 67 :: .row 3 1 kv' (t + 1) (ints (ks ++ [x])) :: .row 3 1 (.slice va t vc) t (ints vs) :: .row 67 5 (.slice ao ns.length co) ns.length (ncells ns) :: nrows ns)))
            case first =>
              go_region_law (refine step_append_lies _ rfl _ _ 22 rfl w.heap.size 3 i0 (.int .i64 0) 1 8 Tryz.underlying22 hi0 hz0 hz1 hz2 rfl (by decide) _ t (ints ks) rfl (World.ownsRow.alloc (hT.out.get (i := 1) rfl) _) ⟨wr.heap.size, 0, none⟩ 1 1 [.int .i64 x] rfl rfl (news_one _ _ _) (by simp [Value.oneCell']) (by omega) (by unfold maxLen; omega) (by omega) (by have := hT.out.sz; simp at this ⊢; omega) _ rfl ?_; intro g cap w1 hown hgrow hat hlt1; rw [← ints_snoc] at hown; have hm := (hT.out.allocd (.cells #[.int .i64 x] 3)).drew.lies (i := 1) rfl hown hgrow hat; clear q3 f3 hown hgrow hat; have q3 := hm.cell (i := 0) rfl 3 (.slice ka t kc) rfl; have f3 := hm.free (i := 0) rfl 3; have H1 := hideIt (hm.store (i := 0) (j := 3) rfl (.slice (some ⟨g, 0, none⟩) (t + 1) cap) rfl); clear hm)
              all_goals
                go_wp2
                go_meet
                case rel => exact ⟨_, H1.out⟩
            case rest =>
              obtain ⟨kv', hT2⟩ := hcut
              clear hT q3 f3 y1 hblx hszx
              obtain ⟨ka', kc', rfl⟩ := As.form0 (hT2.out.get (i := 1) rfl)
              have q4 := hT2.out.cell (i := 0) rfl 4 (.slice va t vc) rfl
              have f4 := hT2.out.free (i := 0) rfl 4
              have hblx := hT2.out.bl
              have hszx := hT2.out.lt (i := 0) rfl
              obtain ⟨b2, o2, e2, -, x1⟩ := HK.out.elem s hgo2
              cases e2
              have y1 := x1 _ hblx
              rw [HX.out] at y1
              obtain ⟨hx1, hx2⟩ := hxb
              clear x1
              go_upto_region 14 with fail
              go_cut [] from 30 to 64 (fun wy => ∃ vv' y, Hid (M w w.heap.size wy (.blk gl #[.int .i64 0, .int .i64 0, .int .i64 0, (.slice ka' (t + 1) kc'), vv'] 67 :: .row 3 1 (.slice ka' (t + 1) kc') (t + 1) (ints (ks ++ [x])) :: .row 3 1 vv' (t + 1) (ints (vs ++ [y])) :: .row 67 5 (.slice ao ns.length co) ns.length (ncells ns) :: nrows ns)))
              case first =>
                rename_i wz _
                go_region_law (refine step_append_lies _ rfl _ _ 22 rfl w.heap.size 3 i0 (.int .i64 0) 1 8 Tryz.underlying22 hi0 hz0 hz1 hz2 rfl (by decide) _ t (ints vs) rfl (World.ownsRow.alloc (hT2.out.get (i := 2) rfl) _) ⟨_, 0, none⟩ 1 1 [.int .i64 _] rfl rfl (news_one _ _ _) (by simp [Value.oneCell']) (by omega) (by unfold maxLen; omega) (by omega) (by have := hT2.out.sz; simp at this ⊢; omega) _ rfl ?_; intro g cap w1 hown hgrow hat hlt1; rw [← ints_snoc] at hown; have hm := (hT2.out.allocd _).drew.lies (i := 2) rfl hown hgrow hat; clear q4 f4 hown hgrow hat; have q4 := hm.cell (i := 0) rfl 4 (.slice va t vc) rfl; have f4 := hm.free (i := 0) rfl 4; have H1 := hideIt (hm.store (i := 0) (j := 4) rfl (.slice (some ⟨g, 0, none⟩) (t + 1) cap) rfl); clear hm)
                all_goals
                  go_wp2
                  go_meet
                  case rel => exact ⟨_, _, H1.out⟩
              case rest =>
                obtain ⟨vv', y, hT3⟩ := hcut
                obtain ⟨va', vc', rfl⟩ := As.form0 (hT3.out.get (i := 2) rfl)
                clear hT2 q4 f4 y1 hblx hszx
                go_wp2
                go_roundw
                case rel =>
                  refine ⟨t + 1, s + 1, ks ++ [x], vs ++ [y], _, _, ?_, by omega, by omega, by go_num, by go_num, hT3.out, ?_, ?_⟩
                  · unfold Hid; have := HPT.out; omega
                  · rw [hJ.out.1, List.take_add_one, List.getElem?_drop, ← HPT.out, List.getElem?_eq_getElem (by rw [HN.out]; exact hgo2)]
                    have := HX.out
                    rw [List.getElem?_eq_getElem (by rw [HN.out]; exact hgo2)] at this
                    simp at this
                    rw [this]; rfl
                  · rw [List.length_append, hJ.out.2]; rfl
                case measure => simp [intOf]; omega
          · have ht0 : 1 ≤ t := by have := HPT.out; omega
            have q0 := hT.out.cell (i := 0) rfl 0 (.int .i64 0) rfl
            have q1 := hT.out.cell (i := 0) rfl 1 (.int .i64 0) rfl
            have q2 := hT.out.cell (i := 0) rfl 2 (.int .i64 0) rfl
            have q4 := hT.out.cell (i := 0) rfl 4 (.slice va t vc) rfl
            have hkl : ks.length = t := by rw [hJ.out.1, List.length_take, List.length_drop, HN.out]; have := HPT.out; omega
            have HKL := hideIt hkl
            have hfin : ∀ (v : Value) (wf : World), M w w.heap.size wf (.blk gl #[.int .i64 0, .int .i64 0, .int .i64 0, .slice ka t kc, .slice va t vc] 67 :: .row 3 1 (.slice ka t kc) t (ints ks) :: .row 3 1 (.slice va t vc) t (ints vs) :: .row 67 5 v (ns.length + 1) (ncells ns ++ [.int .i64 0, .int .i64 0, .int .i64 0, .slice ka t kc, .slice va t vc]) :: nrows ns) → M w w.heap.size wf (.row 67 5 v (ns ++ [(⟨⟨0, 0, 0, ks, vs⟩, .slice ka t kc, .slice va t vc⟩ : Nv)]).length (ncells (ns ++ [(⟨⟨0, 0, 0, ks, vs⟩, .slice ka t kc, .slice va t vc⟩ : Nv)])) :: nrows (ns ++ [(⟨⟨0, 0, 0, ks, vs⟩, .slice ka t kc, .slice va t vc⟩ : Nv)])) := by
              intro v wf h
              have h2 := h.push
              rw [ncells_snoc, nrows_snoc, List.length_append]
              simp only [Nv.cells, Nv.rows, hkl, hJ.out.2]
              exact h2
            have HF := hideIt hfin
            clear hkl hfin
            by_cases hgo1 : t < q
            · have g1 : (t : Int) < (q : Int) := by omega
              have g2 : (n : Int) ≤ (s : Int) := by omega
              clear hgo
              go_wp2_with (at_builtin; refine wpList_append_lies _ rfl _ _ 63 rfl w.heap.size 67 j0 (.agg #[.int .i64 0, .int .i64 0, .int .i64 0, .slice none 0 0, .slice none 0 0]) 5 72 Tryz.underlying63 hj0 hy0 hy1 hy2 rfl (by decide) _ ns.length (ncells ns) rfl (World.ownsRow.alloc (hT.out.get (i := 3) rfl) _) ⟨_, 0, none⟩ 1 1 [.int .i64 0, .int .i64 0, .int .i64 0, .slice ka t kc, .slice va t vc] rfl rfl (World.news_of_block (heap_alloc_new _ _)) (by simp [Value.oneCell']) (by omega) (by unfold maxLen; omega) (by omega) (by have := hT.out.sz; simp at this ⊢; omega) _ rfl ?_; intro g cap w1 hown hgrow hat hlt1; have H1 := hideIt ((hT.out.allocd _).lies (i := 3) rfl hown hgrow hat); clear hown hgrow hat)
              go_roundw
              case rel => exact ⟨s, ns ++ [(⟨⟨0, 0, 0, ks, vs⟩, .slice ka t kc, .slice va t vc⟩ : Nv)], by omega, by rw [List.length_append]; have := HPT.out; simp; omega, rfl, by rw [List.length_append]; go_num, HF.out _ _ H1.out, leafL_snoc hI.out.1 hI.out.2 (by rw [HKL.out]; omega) (HKL.out.trans hJ.out.2.symm) hJ.out.1 HPT.out⟩
              case measure => simp [intOf]; have := HPT.out; omega
            · have g1 : (q : Int) ≤ (t : Int) := by omega
              clear hgo
              go_wp2_with (at_builtin; refine wpList_append_lies _ rfl _ _ 63 rfl w.heap.size 67 j0 (.agg #[.int .i64 0, .int .i64 0, .int .i64 0, .slice none 0 0, .slice none 0 0]) 5 72 Tryz.underlying63 hj0 hy0 hy1 hy2 rfl (by decide) _ ns.length (ncells ns) rfl (World.ownsRow.alloc (hT.out.get (i := 3) rfl) _) ⟨_, 0, none⟩ 1 1 [.int .i64 0, .int .i64 0, .int .i64 0, .slice ka t kc, .slice va t vc] rfl rfl (World.news_of_block (heap_alloc_new _ _)) (by simp [Value.oneCell']) (by omega) (by unfold maxLen; omega) (by omega) (by have := hT.out.sz; simp at this ⊢; omega) _ rfl ?_; intro g cap w1 hown hgrow hat hlt1; have H1 := hideIt ((hT.out.allocd _).lies (i := 3) rfl hown hgrow hat); clear hown hgrow hat)
              go_roundw
              case rel => exact ⟨s, ns ++ [(⟨⟨0, 0, 0, ks, vs⟩, .slice ka t kc, .slice va t vc⟩ : Nv)], by omega, by rw [List.length_append]; have := HPT.out; simp; omega, rfl, by rw [List.length_append]; go_num, HF.out _ _ H1.out, leafL_snoc hI.out.1 hI.out.2 (by rw [HKL.out]; omega) (HKL.out.trans hJ.out.2.symm) hJ.out.1 HPT.out⟩
              case measure => simp [intOf]; have := HPT.out; omega
    · obtain rfl : p = n := by omega
      have HE : Hid (keysOf ns = L) := by have := hI.out.2; rw [← HN.out, List.take_length] at this; exact this
      by_cases hn0 : ns.length = 0
      · have hns : ns = [] := List.eq_nil_of_length_eq_zero hn0
        subst hns
        have hM0 : Hid (M w w.heap.size wr [.row 67 5 (.slice ao 0 co) 0 []]) := hM.out
        rw [List.length_nil]
        clear hM hn0
        go_wp2_with (at_builtin; refine wpList_append_lies _ rfl _ _ 63 rfl w.heap.size 67 j0 (.agg #[.int .i64 0, .int .i64 0, .int .i64 0, .slice none 0 0, .slice none 0 0]) 5 72 Tryz.underlying63 hj0 hy0 hy1 hy2 rfl (by decide) _ 0 [] rfl (World.ownsRow.alloc (hM0.out.get (i := 0) rfl) _) ⟨_, 0, none⟩ 1 1 [.int .i64 0, .int .i64 0, .int .i64 0, .slice none 0 0, .slice none 0 0] rfl rfl (World.news_of_block (heap_alloc_new _ _)) (by simp [Value.oneCell']) (by omega) (by unfold maxLen; omega) (by omega) (by have := hM0.out.sz; simp at this ⊢; omega) _ rfl ?_; intro g cap w1 hown hgrow hat hlt1; have H1 := hideIt ((hM0.out.allocd _).lies (i := 0) rfl hown hgrow hat); clear hown hgrow hat)
        go_ret
        refine ⟨_, [⟨⟨0, 0, 0, [], []⟩, .slice none 0 0, .slice none 0 0⟩], rfl, ?_, ?_, Or.inr ⟨?_, rfl⟩⟩
        · exact M.snocNil (e := 3) (z := 1) (M.snocNil (e := 3) (z := 1) H1.out)
        · exact HE.out
        · exact HE.out.symm
      · have hn1 : ((ns.length : Int) == 0) = false := by rw [beq_eq_false_iff_ne]; omega
        have HNE : Hid (ns ≠ []) := fun e => hn0 (by rw [e]; rfl)
        clear hn0
        go_wp2
        go_ret
        exact ⟨_, ns, rfl, hM.out, HE.out, Or.inl ⟨hI.out.1, HNE.out⟩⟩
end Go.Proofs.YtajobgmnmbnhiaaGreatDoor.Sap

/- WHAT IS PROVED HERE: saplingkeep.bounds tells where each node of a row begins. Conditions: each node but the first has a key; at most 200 nodes. -/
namespace Go.Proofs.YtajobgmnmbnhiaaGreatDoor.Sap
open Go.RowKit

/-- The cells of one node among many. -/
theorem ncells_at (ns : List Nv) (i c : Nat) (hc : c < 5) : (ncells ns)[i * 5 + c]? = (ns[i]?).bind fun x => x.cells[c]? := by
  induction ns generalizing i with
  | nil => simp [ncells]
  | cons x r ih =>
    have e : ncells (x :: r) = x.cells ++ ncells r := by simp [ncells]
    have hx : x.cells.length = 5 := rfl
    rw [e]
    cases i with
    | zero => rw [List.getElem?_append_left (by omega)]; simp
    | succ i =>
      rw [List.getElem?_append_right (by omega), hx, show (i + 1) * 5 + c - 5 = i * 5 + c by omega, ih i]
      simp
theorem ncells_len (ns : List Nv) : (ncells ns).length = ns.length * 5 := by
  induction ns with
  | nil => rfl
  | cons x r ih =>
    have e : ncells (x :: r) = x.cells ++ ncells r := by simp [ncells]
    rw [e, List.length_append, ih, show x.cells.length = 5 from rfl, List.length_cons]; omega
/-- A row of nodes that is there, with all their lists. -/
structure NS (w : World) (B : Nat) (v : Value) (ns : List Nv) : Prop where
  row : As.holds w B (.row 67 5 v ns.length (ncells ns))
  rows : ∀ r ∈ nrows ns, r.holds w B
theorem M.ns {w0 w : World} {B : Nat} {l : List As} {v : Value} {ns : List Nv} (h : M w0 B w l) (h1 : .row 67 5 v ns.length (ncells ns) ∈ l) (h2 : ∀ r ∈ nrows ns, r ∈ l) : NS w B v ns := ⟨h.holds _ h1, fun r hr => h.holds r (h2 r hr)⟩
theorem NS.below {w w' : World} {B : Nat} {v : Value} {ns : List Nv} (h : NS w B v ns) (hb : Below w.heap.size w w') : NS w' B v ns :=
  ⟨h.row.kept fun k hk => hb.block k (h.row.lt hk).2, fun r hr => (h.rows r hr).kept fun k hk => hb.block k ((h.rows r hr).lt hk).2⟩
theorem NS.form {w : World} {B : Nat} {v : Value} {ns : List Nv} (h : NS w B v ns) (hn : 0 < ns.length) : ∃ g cap, v = .slice (some ⟨g, 0, none⟩) ns.length cap := As.form h.row hn
theorem NS.at {w : World} {B g cap : Nat} {ns : List Nv} (h : NS w B (.slice (some ⟨g, 0, none⟩) ns.length cap) ns) (i : Nat) (x : Nv) (hx : ns[i]? = some x) :
    (w.cell? ⟨g, i * 5, none⟩ = some (.int .i64 x.n.lv) ∧ w.cell? ⟨g, i * 5 + 1, none⟩ = some (.int .i64 x.n.lk) ∧ w.cell? ⟨g, i * 5 + 2, none⟩ = some (.int .i64 x.n.hi) ∧ w.cell? ⟨g, i * 5 + 3, none⟩ = some x.kv ∧ w.cell? ⟨g, i * 5 + 4, none⟩ = some x.vv) ∧ (∀ j, w.frozen? ⟨g, j, none⟩ = false) ∧ Rd w x.kv x.n.ks ∧ Rd w x.vv x.n.vs := by
  have hil : i < ns.length := (List.getElem?_eq_some_iff.1 hx).1
  have key : ∀ c, c < 5 → w.cell? ⟨g, i * 5 + c, none⟩ = x.cells[c]? := by
    intro c hc
    rw [World.ownsRow.cellAt h.row _ (by omega), ncells_at _ _ _ hc, hx]; rfl
  have hmem : x ∈ ns := List.mem_of_getElem? hx
  have hr : ∀ r ∈ x.rows, r.holds w B := fun r hr => h.rows r (List.mem_flatMap.2 ⟨x, hmem, hr⟩)
  refine ⟨⟨key 0 (by omega), key 1 (by omega), key 2 (by omega), key 3 (by omega), key 4 (by omega)⟩, fun j => World.ownsRow.frozenAt h.row j, ?_, ?_⟩
  · have h1 : As.holds w B (.row 3 1 x.kv x.n.ks.length (ints x.n.ks)) := hr _ (by simp [Nv.rows])
    exact owns_rd h1
  · have h1 : As.holds w B (.row 3 1 x.vv x.n.vs.length (ints x.n.vs)) := hr _ (by simp [Nv.rows])
    exact owns_rd h1

/-- Where each node begins: the first at 0, each other at its first key. -/
def bnd (ns : List Nv) (i : Nat) : Int := if i = 0 then 0 else ((ns[i]?).map fun x => x.n.ks[0]?.getD 0).getD 0
def bnds (ns : List Nv) : List Int := (List.range ns.length).map (bnd ns)
theorem bnds_len (ns : List Nv) : (bnds ns).length = ns.length := by simp [bnds]
theorem bnds_at (ns : List Nv) (i : Nat) (h : i < ns.length) : (bnds ns)[i]?.getD 0 = bnd ns i := by simp [bnds, h]
theorem bnds_snoc (ns : List Nv) (k : Nat) (h : k < ns.length) : (bnds ns).take (k + 1) = (bnds ns).take k ++ [bnd ns k] := by
  rw [List.take_add_one]; simp [bnds, h]
theorem NS.form' {w : World} {B n cap : Nat} {ao : Option Addr} {ns : List Nv} (h : NS w B (.slice ao n cap) ns) (hn : 0 < n) : ∃ g cap', (Value.slice ao n cap) = .slice (some ⟨g, 0, none⟩) n cap' := by
  rcases h.row.2 with ⟨h1, h0⟩ | ⟨g, c, cur, e, -⟩
  · cases h1; omega
  · cases e; exact ⟨g, cap, rfl⟩
theorem NS.at' {w : World} {B g n cap : Nat} {ns : List Nv} (h : NS w B (.slice (some ⟨g, 0, none⟩) n cap) ns) (i : Nat) (x : Nv) (hx : ns[i]? = some x) :
    (w.cell? ⟨g, i * 5, none⟩ = some (.int .i64 x.n.lv) ∧ w.cell? ⟨g, i * 5 + 1, none⟩ = some (.int .i64 x.n.lk) ∧ w.cell? ⟨g, i * 5 + 2, none⟩ = some (.int .i64 x.n.hi) ∧ w.cell? ⟨g, i * 5 + 3, none⟩ = some x.kv ∧ w.cell? ⟨g, i * 5 + 4, none⟩ = some x.vv) ∧ (∀ j, w.frozen? ⟨g, j, none⟩ = false) ∧ Rd w x.kv x.n.ks ∧ Rd w x.vv x.n.vs := by
  have hl : n = ns.length := by
    rcases h.row.2 with ⟨h1, h0⟩ | ⟨g, c, cur, e, -⟩
    · cases h1
    · cases e; rfl
  subst hl
  exact h.at i x hx

set_option maxRecDepth 100000 in
set_option maxHeartbeats 3200000 in
theorem bounds_any (v : Value) (ns : List Nv) (B : Nat) (w : World) (h : NS w B v ns) (hn : ns.length ≤ 200) (hne : ∀ i x, 0 < i → ns[i]? = some x → x.n.ks ≠ []) :
    Calls Tryz.prog 35 #[v] w fun e w' => ∃ bv, e = .returned bv ∧ M w w.heap.size w' [.row 3 1 bv ns.length (ints (bnds ns))] := by
  obtain ⟨i0, hi0, hz0, hz1, hz2⟩ := info_parts infoInt
  have HNS := hideIt h
  have HNE := hideIt hne
  obtain ⟨ao, cap, rfl⟩ := As.form0 h.row
  obtain ⟨n, hnn⟩ : ∃ n, ns.length = n := ⟨_, rfl⟩
  have HN := hideIt hnn
  rw [hnn] at hn HNS ⊢
  clear h hne hnn
  go_enter Tryz.func35, Tryz.ntmps35
  go_wp2
  go_loopw [3, 4] (fun o i wr => ∃ k : Nat, k ≤ n ∧ i = .int .i64 k ∧ Hid (M w w.heap.size wr [.row 3 1 o k (ints ((bnds ns).take k))])) (fun _ i _ => n - (intOf i).toNat)
  case atStart => exact ⟨0, Nat.zero_le _, rfl, M.snocNil (M.start w)⟩
  case round =>
    obtain ⟨k, hk, rfl, hM⟩ := hrel
    obtain ⟨oa, oc, rfl⟩ := As.form0 (hM.out.get (i := 0) rfl)
    by_cases hlt : k < n
    · have hkk : (k : Int) < (n : Int) := by omega
      have hk0 : (0 : Int) ≤ (k : Int) := by omega
      have HSN := hideIt (bnds_snoc ns k (by rw [HN.out]; exact hlt))
      go_upto_if 13 with fail
      go_cut [5] from 6 to 24 (fun t wx => t = .int .i64 (bnd ns k) ∧ wx = wr)
      case first =>
        by_cases hk1 : 0 < k
        · have hk2 : (0 : Int) < (k : Int) := by omega
          obtain ⟨g, cap', hv⟩ := HNS.out.form' (by omega)
          cases hv
          obtain ⟨x, hx⟩ : ∃ x, ns[k]? = some x := ⟨_, List.getElem?_eq_getElem (by rw [HN.out]; exact hlt)⟩
          have hb := hM.out.bl
          have hat := (HNS.out.below hb).at' k x hx
          obtain ⟨⟨c0, c1, c2, c3, c4⟩, cf, rk, rv⟩ := hat
          have hks := HNE.out k x hk1 hx
          obtain ⟨ka, kc, hkv⟩ := rk.len
          have hpos : 0 < x.n.ks.length := List.length_pos_iff.2 hks
          rw [hkv] at rk c3
          obtain ⟨kb, ko, rfl, -, kx⟩ := rk.elem 0 hpos
          have y1 := kx wr (Below.refl _ _)
          rw [Nat.add_zero] at y1
          have hp2 : (0 : Int) < (x.n.ks.length : Int) := by omega
          have HB : Hid (bnd ns k = x.n.ks[0]?.getD 0) := by unfold Hid bnd; rw [if_neg (by omega), hx]; rfl
          obtain ⟨fk, hfk⟩ : ∃ y, x.n.ks[0]?.getD 0 = y := ⟨_, rfl⟩
          rw [hfk] at y1 HB
          clear hfk hx hkv rk rv kx c0 c1 c2 c4 hks
          go_wp2
          go_meet
          case rel => exact ⟨by rw [HB.out], rfl⟩
        · have hk0 : k = 0 := by omega
          subst hk0
          go_wp2
          go_meet
          case rel => exact ⟨rfl, rfl⟩
      case rest =>
        obtain ⟨rfl, rfl⟩ := hcut
        go_wp2_with (at_builtin; refine wpList_append_lies _ rfl _ _ 22 rfl w.heap.size 3 i0 (.int .i64 0) 1 8 Tryz.underlying22 hi0 hz0 hz1 hz2 rfl (by decide) _ k (ints ((bnds ns).take k)) rfl (World.ownsRow.alloc (hM.out.get (i := 0) rfl) _) ⟨_, 0, none⟩ 1 1 [.int .i64 (bnd ns k)] rfl rfl (news_one _ _ _) (by simp [Value.oneCell']) (by omega) (by unfold maxLen; omega) (by omega) (by have := hM.out.sz; simp at this ⊢; omega) _ rfl ?_; intro g cap w1 hown hgrow hat hlt1; rw [← ints_snoc, ← HSN.out] at hown; have H1 := hideIt ((hM.out.allocd _).lies (i := 0) rfl hown hgrow hat); clear hown hgrow hat)
        go_roundw
        case rel => exact ⟨k + 1, by omega, by go_num, H1.out⟩
        case measure => simp [intOf]; omega
    · obtain rfl : k = n := by omega
      go_wp2
      go_ret
      refine ⟨_, rfl, ?_⟩
      have h1 := hM.out
      rw [List.take_of_length_le (by rw [bnds_len, HN.out]; exact Nat.le_refl _)] at h1
      exact h1
end Go.Proofs.YtajobgmnmbnhiaaGreatDoor.Sap

/- WHAT IS PROVED HERE: saplingkeep.linked sets Link and High of the nodes of a row. Conditions: each node but the first has a key; at most 200 nodes; the first page is 0 to 1000. -/
namespace Go.Proofs.YtajobgmnmbnhiaaGreatDoor.Sap
open Go.RowKit

def Nv.lk (x : Nv) (a : Int) : Nv := { x with n := { x.n with lk := a } }
def Nv.hi (x : Nv) (a : Int) : Nv := { x with n := { x.n with hi := a } }
theorem ncells_lk (ns : List Nv) (k : Nat) (x : Nv) (a : Int) (h : ns[k]? = some x) : (ncells ns).set (k * 5 + 1) (.int .i64 a) = ncells (ns.set k (x.lk a)) := by
  induction ns generalizing k with
  | nil => simp at h
  | cons y r ih =>
    have e : ∀ z : Nv, ncells (z :: r) = z.cells ++ ncells r := fun z => by simp [ncells]
    cases k with
    | zero => simp at h; subst h; rw [List.set_cons_zero, e, e]; rfl
    | succ k =>
      have e2 : ncells (y :: r.set k (x.lk a)) = y.cells ++ ncells (r.set k (x.lk a)) := by simp [ncells]
      rw [List.set_cons_succ, e, e2, ← ih k (by simpa using h), List.set_append_right _ _ (by show 5 ≤ _; omega)]
      rw [show y.cells.length = 5 from rfl, show (k + 1) * 5 + 1 - 5 = k * 5 + 1 by omega]
theorem ncells_hi (ns : List Nv) (k : Nat) (x : Nv) (a : Int) (h : ns[k]? = some x) : (ncells ns).set (k * 5 + 2) (.int .i64 a) = ncells (ns.set k (x.hi a)) := by
  induction ns generalizing k with
  | nil => simp at h
  | cons y r ih =>
    have e : ∀ z : Nv, ncells (z :: r) = z.cells ++ ncells r := fun z => by simp [ncells]
    cases k with
    | zero => simp at h; subst h; rw [List.set_cons_zero, e, e]; rfl
    | succ k =>
      have e2 : ncells (y :: r.set k (x.hi a)) = y.cells ++ ncells (r.set k (x.hi a)) := by simp [ncells]
      rw [List.set_cons_succ, e, e2, ← ih k (by simpa using h), List.set_append_right _ _ (by show 5 ≤ _; omega)]
      rw [show y.cells.length = 5 from rfl, show (k + 1) * 5 + 2 - 5 = k * 5 + 2 by omega]
/-- One node, linked; a row whose first k nodes are linked. -/
def lkOf (ns : List Nv) (f : Int) (i : Nat) : Int := if i + 1 < ns.length then f + i + 1 else -1
def hiOf (ns : List Nv) (i : Nat) : Int := if i + 1 < ns.length then bnd ns (i + 1) else 10000
def lnk (ns : List Nv) (f : Int) (i : Nat) (x : Nv) : Nv := (x.lk (lkOf ns f i)).hi (hiOf ns i)
def linkUp (ns : List Nv) (f : Int) (k : Nat) : List Nv := ns.mapIdx fun i x => if i < k then lnk ns f i x else x
theorem linkUp_zero (ns : List Nv) (f : Int) : linkUp ns f 0 = ns := by
  apply List.ext_getElem?; intro i; simp [linkUp]
theorem linkUp_len (ns : List Nv) (f : Int) (k : Nat) : (linkUp ns f k).length = ns.length := by simp [linkUp]
theorem linkUp_at (ns : List Nv) (f : Int) (k : Nat) (x : Nv) (h : ns[k]? = some x) : (linkUp ns f k)[k]? = some x := by simp [linkUp, h]
theorem linkUp_succ (ns : List Nv) (f : Int) (k : Nat) (x : Nv) (h : ns[k]? = some x) : (linkUp ns f k).set k (lnk ns f k x) = linkUp ns f (k + 1) := by
  apply List.ext_getElem?
  intro i
  have hk : k < ns.length := (List.getElem?_eq_some_iff.1 h).1
  rw [List.getElem?_set]
  by_cases hi : k = i
  · subst hi
    have e : ns[k] = x := (List.getElem?_eq_some_iff.1 h).2
    simp [linkUp, hk, e]
  · rw [if_neg hi]
    simp only [linkUp, List.getElem?_mapIdx]
    congr 1
    funext y
    by_cases h2 : i < k
    · rw [if_pos h2, if_pos (by omega)]
    · rw [if_neg h2, if_neg (by omega)]
def linkN (ns : List Nv) (f : Int) : List Nv := linkUp ns f ns.length
theorem set_set' {α : Type} (l : List α) (i : Nat) (a b : α) : (l.set i a).set i b = l.set i b := by simp
theorem list_set_self {α : Type} {l : List α} {i : Nat} {a : α} (h : l[i]? = some a) : l.set i a = l := by
  apply List.ext_getElem?
  intro j
  rw [List.getElem?_set]
  split
  · rename_i e; subst e; rw [if_pos (List.getElem?_eq_some_iff.1 h).1, h]
  · rfl
theorem M.ne2 {w0 w : World} {B i j b g : Nat} {l : List As} {e1 e2 : TypeId} {z1 z2 n1 n2 m1 m2 c1 c2 : Nat} {xs ys : List Value} (h : M w0 B w l) (hi : l[i]? = some (.row e1 z1 (.slice (some ⟨b, 0, none⟩) m1 c1) n1 xs)) (hj : l[j]? = some (.row e2 z2 (.slice (some ⟨g, 0, none⟩) m2 c2) n2 ys)) (hij : i < j) : b ≠ g := by
  intro e
  subst e
  have hil : i < l.length := (List.getElem?_eq_some_iff.1 hi).1
  have hjl : j < l.length := (List.getElem?_eq_some_iff.1 hj).1
  have hia := (List.getElem?_eq_some_iff.1 hi).2
  have hja := (List.getElem?_eq_some_iff.1 hj).2
  have := List.pairwise_iff_getElem.1 h.apart i j hil hjl hij
  rw [hia, hja] at this
  exact this b rfl rfl
/-- Link and High of one node are stored. -/
theorem M.link2 {w0 w : World} {B ix g n cap k : Nat} {br : As} {l : List As} {cur : List Nv} {x : Nv} (h : M w0 B w (br :: l.set ix (.row 67 5 (.slice (some ⟨g, 0, none⟩) n cap) n (ncells cur)))) (hg : (br :: l.set ix (.row 67 5 (.slice (some ⟨g, 0, none⟩) n cap) n (ncells cur)))[ix + 1]? = some (.row 67 5 (.slice (some ⟨g, 0, none⟩) n cap) n (ncells cur))) (hx : cur[k]? = some x) (a b : Int) :
    M w0 B ((w.setCell ⟨g, k * 5 + 1, none⟩ (.int .i64 a)).setCell ⟨g, k * 5 + 2, none⟩ (.int .i64 b)) (br :: l.set ix (.row 67 5 (.slice (some ⟨g, 0, none⟩) n cap) n (ncells (cur.set k ((x.lk a).hi b))))) := by
  have hl : ix < l.length := by
    have := (List.getElem?_eq_some_iff.1 hg).1
    simpa using this
  have hk : k < cur.length := (List.getElem?_eq_some_iff.1 hx).1
  have s1 := h.storeRow hg (j := k * 5 + 1) (.int .i64 a)
  rw [ncells_lk _ _ _ _ hx, List.set_cons_succ, set_set'] at s1
  have s2 := s1.storeRow (i := ix + 1) (g := g) (by rw [List.getElem?_cons_succ, List.getElem?_set, if_pos rfl, if_pos hl]) (j := k * 5 + 2) (.int .i64 b)
  rw [ncells_hi (cur.set k (x.lk a)) k (x.lk a) b (by rw [List.getElem?_set, if_pos rfl, if_pos hk]), List.set_cons_succ, set_set', set_set'] at s2
  exact s2
theorem M.link4 {w0 w : World} {B ix g n cap k : Nat} {br : As} {l : List As} {cur : List Nv} {x : Nv} (h : M w0 B w (br :: l.set ix (.row 67 5 (.slice (some ⟨g, 0, none⟩) n cap) n (ncells cur)))) (hg : (br :: l.set ix (.row 67 5 (.slice (some ⟨g, 0, none⟩) n cap) n (ncells cur)))[ix + 1]? = some (.row 67 5 (.slice (some ⟨g, 0, none⟩) n cap) n (ncells cur))) (hx : cur[k]? = some x) (a b c d : Int) :
    M w0 B ((((w.setCell ⟨g, k * 5 + 1, none⟩ (.int .i64 a)).setCell ⟨g, k * 5 + 2, none⟩ (.int .i64 b)).setCell ⟨g, k * 5 + 1, none⟩ (.int .i64 c)).setCell ⟨g, k * 5 + 2, none⟩ (.int .i64 d)) (br :: l.set ix (.row 67 5 (.slice (some ⟨g, 0, none⟩) n cap) n (ncells (cur.set k ((x.lk c).hi d))))) := by
  have hl : ix < l.length := by
    have := (List.getElem?_eq_some_iff.1 hg).1
    simpa using this
  have hk : k < cur.length := (List.getElem?_eq_some_iff.1 hx).1
  have s1 := M.link2 h hg hx a b
  have s2 := M.link2 s1 (by rw [List.getElem?_cons_succ, List.getElem?_set, if_pos rfl, if_pos hl]) (x := (x.lk a).hi b) (k := k) (by rw [List.getElem?_set, if_pos rfl, if_pos hk]) c d
  rw [set_set'] at s2
  exact s2

set_option maxRecDepth 100000 in
set_option maxHeartbeats 3200000 in
theorem linked_any (v : Value) (ns : List Nv) (f : Int) (w0 : World) (B ix : Nat) (l : List As) (w : World) (h : M w0 B w l) (hx : l[ix]? = some (.row 67 5 v ns.length (ncells ns))) (hin : ∀ r ∈ nrows ns, r ∈ l)
    (hn : ns.length ≤ 200) (hne : ∀ i x, 0 < i → ns[i]? = some x → x.n.ks ≠ []) (hf0 : 0 ≤ f) (hf1 : f ≤ 1000) :
    Calls Tryz.prog 23 #[v, .int .i64 f] w fun e w' => (∃ u, e = .returned u) ∧ M w0 B w' (l.set ix (.row 67 5 v ns.length (ncells (linkN ns f)))) := by
  have hNS : NS w B v ns := h.ns (List.mem_of_getElem? hx) hin
  have CB := hideIt (bounds_any v ns B w hNS hn hne)
  have HM := hideIt h
  have HX := hideIt hx
  obtain ⟨ao, cap, rfl⟩ := As.form0 hNS.row
  obtain ⟨n, hnn⟩ : ∃ n, ns.length = n := ⟨_, rfl⟩
  have HN := hideIt hnn
  have HNS := hideIt hNS
  rw [hnn] at hn HX CB HNS ⊢
  clear h hx hin hne hNS
  rw [show linkN ns f = linkUp ns f n by unfold linkN; rw [hnn]]
  clear hnn
  go_enter Tryz.func23, Tryz.ntmps23
  go_wp2_with fail
  refine CB.out.mono ?_
  rintro e w1 ⟨bv, rfl, hb⟩
  obtain ⟨ba, bc, rfl⟩ := As.form0 (hb.get (i := 0) rfl)
  have H1 := hideIt (HM.out.join hb)
  have HB := hideIt (show Rd w1 (.slice ba n bc) (bnds ns) by have h1 : As.holds w1 w.heap.size (.row 3 1 (.slice ba n bc) n (ints (bnds ns))) := hb.get (i := 0) rfl; rw [← HN.out, ← bnds_len] at h1 ⊢; exact owns_rd h1)
  clear hb CB HM
  go_wp2
  go_loopw [5] (fun i wr => ∃ k : Nat, k ≤ n ∧ i = .int .i64 k ∧ Hid (M w0 B wr (.row 3 1 (.slice ba n bc) n (ints (bnds ns)) :: l.set ix (.row 67 5 (.slice ao n cap) n (ncells (linkUp ns f k)))))) (fun i _ => n - (intOf i).toNat)
  case atStart =>
    refine ⟨0, Nat.zero_le _, rfl, ?_⟩
    have h1 := H1.out
    rw [linkUp_zero, list_set_self HX.out]
    exact h1
  case round =>
    obtain ⟨k, hk, rfl, hM⟩ := hrel
    by_cases hlt : k < n
    · have hkk : (k : Int) < (n : Int) := by omega
      have hk0 : (0 : Int) ≤ (k : Int) := by omega
      obtain ⟨g, cap', hv⟩ := HNS.out.form' (by omega)
      cases hv
      have hgx : (.row 3 1 (.slice ba n bc) n (ints (bnds ns)) :: l.set ix (.row 67 5 (.slice (some ⟨g, 0, none⟩) n cap) n (ncells (linkUp ns f k))))[ix + 1]? = some (.row 67 5 (.slice (some ⟨g, 0, none⟩) n cap) n (ncells (linkUp ns f k))) := by
        rw [List.getElem?_cons_succ, List.getElem?_set, if_pos rfl, if_pos (List.getElem?_eq_some_iff.1 HX.out).1]
      obtain ⟨x, hx⟩ : ∃ x, ns[k]? = some x := ⟨_, List.getElem?_eq_getElem (by rw [HN.out]; exact hlt)⟩
      have hxu := linkUp_at ns f k x hx
      have hrow := hM.out.get hgx
      have c1 : wr.cell? ⟨g, k * 5 + 1, none⟩ = some (.int .i64 x.n.lk) := by rw [World.ownsRow.cellAt hrow _ (by omega), ncells_at _ _ _ (by omega), hxu]; rfl
      have c2 : wr.cell? ⟨g, k * 5 + 2, none⟩ = some (.int .i64 x.n.hi) := by rw [World.ownsRow.cellAt hrow _ (by omega), ncells_at _ _ _ (by omega), hxu]; rfl
      have f1 := World.ownsRow.frozenAt hrow (k * 5 + 1)
      have f2 := World.ownsRow.frozenAt hrow (k * 5 + 2)
      have HXU := hideIt hxu
      have HSC := hideIt (linkUp_succ ns f k x hx)
      clear hrow hx hxu
      by_cases hk1 : k + 1 < n
      · have hk2 : (k : Int) + 1 < (n : Int) := by omega
        have hk3 : (0 : Int) ≤ (k : Int) + 1 := by omega
        obtain ⟨bb, bc', hbv⟩ := As.form (hM.out.get (i := 0) rfl) (by omega)
        cases hbv
        have hbk : wr.cell? ⟨bb, k + 1, none⟩ = some (.int .i64 (bnd ns (k + 1))) := by
          rw [World.ownsRow.cellAt (hM.out.get (i := 0) rfl) _ (by omega)]
          have e := bnds_at ns (k + 1) (by rw [HN.out]; exact hk1)
          have e2 : (bnds ns)[k + 1]? = some (bnd ns (k + 1)) := by rw [List.getElem?_eq_getElem (by rw [bnds_len, HN.out]; exact hk1)] at e ⊢; simpa using e
          simp [ints, e2]
        have hne1 := hM.out.ne2 (i := 0) (j := ix + 1) rfl hgx (by omega)
        have hne2 : g ≠ bb := fun e => hne1 e.symm
        obtain ⟨bk, hbke⟩ : ∃ y, bnd ns (k + 1) = y := ⟨_, rfl⟩
        rw [hbke] at hbk
        have HL : Hid (lnk ns f k x = (x.lk (f + k + 1)).hi bk) := by unfold Hid lnk lkOf hiOf; rw [if_pos (by rw [HN.out]; exact hk1), if_pos (by rw [HN.out]; exact hk1), hbke]
        have S1 := hideIt (M.link4 hM.out hgx HXU.out (-1) 10000 (f + k + 1) bk)
        rw [HL.out] at HSC
        rw [HSC.out] at S1
        clear hgx hbke
        go_wp2
        go_roundw
        case rel => exact ⟨k + 1, by omega, by go_num, S1.out⟩
        case measure => simp [intOf]; omega
      · have hk2 : (n : Int) ≤ (k : Int) + 1 := by omega
        have HL : Hid (lnk ns f k x = (x.lk (-1)).hi 10000) := by unfold Hid lnk lkOf hiOf; rw [if_neg (by rw [HN.out]; exact hk1), if_neg (by rw [HN.out]; exact hk1)]
        have S1 := hideIt (M.link2 hM.out hgx HXU.out (-1) 10000)
        rw [HL.out] at HSC
        rw [HSC.out] at S1
        clear hgx
        go_wp2
        go_roundw
        case rel => exact ⟨k + 1, by omega, by go_num, S1.out⟩
        case measure => simp [intOf]; omega
    · obtain rfl : k = n := by omega
      go_wp2
      exact bodyPost_end (results_none Tryz.results23 _ _ _) rfl ⟨⟨_, rfl⟩, hM.out.sub (List.sublist_cons_self _ _)⟩
end Go.Proofs.YtajobgmnmbnhiaaGreatDoor.Sap
