/- WHAT IS PROVED HERE: saplingkeep.leaves cuts rising keys into leaves. Conditions: at most 120 keys; the sizes are ints. -/
import Derived.Test.YtajobgmnmbnhiaaGreatDoorXB1S1
import Derived.Test.YtajobgmnmbnhiaaGreatDoorR3
import Derived.Deep.AppendLies
import Derived.Deep.RegionLaw
namespace Go.Proofs.YtajobgmnmbnhiaaGreatDoor.Sap
open Go.RowKit

theorem infoNode : (Tryz.prog.info? 67).map (fun i => (i.zero, i.size, i.bytes)) = some (some (.agg #[.int .i64 0, .int .i64 0, .int .i64 0, .slice none 0 0, .slice none 0 0]), 5, 72) := by kernel_rfl

/-- A node, and the two slices that it has in memory. -/
structure Nv where
  n : Nd
  kv : Value
  vv : Value
def Nv.cells (x : Nv) : List Value := [.int .i64 x.n.lv, .int .i64 x.n.lk, .int .i64 x.n.hi, x.kv, x.vv]
def Nv.rows (x : Nv) : List As := [.row 3 1 x.kv x.n.ks.length (ints x.n.ks), .row 3 1 x.vv x.n.vs.length (ints x.n.vs)]
def ncells (l : List Nv) : List Value := l.flatMap Nv.cells
def nrows (l : List Nv) : List As := l.flatMap Nv.rows
theorem ncells_snoc (l : List Nv) (x : Nv) : ncells (l ++ [x]) = ncells l ++ x.cells := by simp [ncells]
theorem nrows_snoc (l : List Nv) (x : Nv) : nrows (l ++ [x]) = nrows l ++ x.rows := by simp [nrows]
/-- Leaves in the making. -/
def LeafL (ns : List Nv) : Prop := ∀ x ∈ ns, x.n.lv = 0 ∧ x.n.ks ≠ [] ∧ x.n.ks.length = x.n.vs.length
def keysOf (ns : List Nv) : List Int := (ns.map fun x => x.n.ks).flatten
def valsOf (ns : List Nv) : List Int := (ns.map fun x => x.n.vs).flatten

theorem M.lies {w0 w w' : World} {B i g cap : Nat} {l : List As} {e : TypeId} {z n m : Nat} {v : Value} {xs ys : List Value} (h : M w0 B w l) (hi : l[i]? = some (.row e z v n xs)) (ho : w'.ownsRow B e z (.slice (some ⟨g, 0, none⟩) m cap) m ys) (hg : w.grownBy w' v.ownBlock)
    (hat : v.ownBlock = some g ∨ g = w.heap.size) : M w0 B w' (l.set i (.row e z (.slice (some ⟨g, 0, none⟩) m cap) m ys)) :=
  h.append hi ho hg (hat.imp (fun e => e.symm) (fun e => by rw [e]; rfl))
theorem keysOf_snoc (ns : List Nv) (x : Nv) : keysOf (ns ++ [x]) = keysOf ns ++ x.n.ks := by simp [keysOf]
theorem leafL_snoc {ns : List Nv} {L ks vs : List Int} {kv vv : Value} {p t s : Nat} (h : LeafL ns) (hk : keysOf ns = L.take p) (h0 : 1 ≤ ks.length) (hl : ks.length = vs.length) (he : ks = (L.drop p).take t) (hs : s = p + t) :
    LeafL (ns ++ [⟨⟨0, 0, 0, ks, vs⟩, kv, vv⟩]) ∧ keysOf (ns ++ [⟨⟨0, 0, 0, ks, vs⟩, kv, vv⟩]) = L.take s := by
  refine ⟨fun x hx => ?_, ?_⟩
  · rcases List.mem_append.1 hx with hx | hx
    · exact h x hx
    · rw [List.mem_singleton] at hx; subst hx
      exact ⟨rfl, fun e => by simp only at e; rw [e] at h0; simp at h0, hl⟩
  · rw [keysOf_snoc, hk, hs, List.take_add, he]
/-- The leaf that is being made comes to the others. -/
theorem M.push {w0 w : World} {B : Nat} {b : As} {k v : As} {o : As} {l : List As} (h : M w0 B w (b :: k :: v :: o :: l)) : M w0 B w (o :: (l ++ [k, v])) := by
  have h1 : M w0 B w (k :: v :: o :: l) := h.sub (List.sublist_cons_self _ _)
  refine h1.perm ?_
  have e1 : (o :: (l ++ [k, v])).Perm ((o :: l) ++ [k, v]) := by simp
  exact e1.trans List.perm_append_comm


/-- What leaves answers: the leaves, and how they hold the keys. -/
def LeavesR (L : List Int) (w w' : World) (e : Ending) : Prop :=
  ∃ v ns, e = .returned v ∧ M w w.heap.size w' (.row 67 5 v ns.length (ncells ns) :: nrows ns) ∧ keysOf ns = L ∧ ((LeafL ns ∧ ns ≠ []) ∨ (L = [] ∧ ns = [⟨⟨0, 0, 0, [], []⟩, .slice none 0 0, .slice none 0 0⟩]))

set_option maxRecDepth 100000 in
set_option maxHeartbeats 6400000 in
theorem leaves_any (kv sv : Value) (L sz : List Int) (w : World) (hk : Rd w kv L) (hs : Rd w sv sz) (hL : L.length ≤ 120) (hLb : ∀ x ∈ L, 1 ≤ x ∧ x ≤ 9999) (hsl : sz.length ≤ 17592186044416) (hsb : ∀ x ∈ sz, I64 x) :
    Calls Tryz.prog 21 #[kv, sv] w fun e w' => LeavesR L w w' e := by
  obtain ⟨i0, hi0, hz0, hz1, hz2⟩ := info_parts infoInt
  obtain ⟨j0, hj0, hy0, hy1, hy2⟩ := info_parts infoNode
  have HK := hideIt hk
  have HS := hideIt hs
  have HLB := hideIt hLb
  have HSB := hideIt hsb
  obtain ⟨ak, ck, rfl⟩ := hk.len
  obtain ⟨asz, csz, rfl⟩ := hs.len
  obtain ⟨n, hn⟩ : ∃ n, L.length = n := ⟨_, rfl⟩
  obtain ⟨m, hm⟩ : ∃ m, sz.length = m := ⟨_, rfl⟩
  rw [hn] at HK hL ⊢
  rw [hm] at HS hsl ⊢
  have HN := hideIt hn
  have HM := hideIt hm
  clear hk hs hLb hsb hn hm
  go_enter Tryz.func21, Tryz.ntmps21
  go_wp2
  go_loopw [5, 6, 7] (fun o a i wr => ∃ (p : Nat) (ns : List Nv), p ≤ n ∧ ns.length ≤ p ∧ a = .int .i64 p ∧ i = .int .i64 ns.length ∧ Hid (M w w.heap.size wr (.row 67 5 o ns.length (ncells ns) :: nrows ns)) ∧ Hid (LeafL ns ∧ keysOf ns = L.take p)) (fun _ a _ _ => n - (intOf a).toNat)
  case atStart => exact ⟨0, [], Nat.zero_le _, Nat.zero_le _, rfl, rfl, M.snocNil (M.start w), ⟨fun _ hx => (List.not_mem_nil hx).elim, rfl⟩⟩
  case round =>
    obtain ⟨p, ns, hp, hnp, rfl, rfl, hM, hI⟩ := hrel
    obtain ⟨ao, co, rfl⟩ := As.form0 (hM.out.get (i := 0) rfl)
    have hbl := hM.out.bl
    have hsz := hM.out.sz
    by_cases hlt : p < n
    · have hpn : (p : Int) < (n : Int) := by omega
      go_upto_if 19 with fail
      go_cut [8] from 11 to 68 (fun t wx => ∃ q : Nat, 1 ≤ q ∧ q ≤ 5 ∧ t = .int .i64 q ∧ wx = wr)
      case first =>
        by_cases hm0 : 0 < m
        · have hm1 : (0 : Int) < (m : Int) := by omega
          have hmz : ((m : Int) == 0) = false := by simp; omega
          obtain ⟨hr1, hr2⟩ := rem_small ns.length m hm0
          obtain ⟨b1, o1, rfl, -, x1⟩ := HS.out.elem (ns.length % m) hr2
          have y1 := x1 wr hbl
          have hkk : (0 : Int) ≤ ((ns.length % m : Nat) : Int) := by omega
          have hkl : ((ns.length % m : Nat) : Int) < (m : Int) := by omega
          clear x1
          go_wp2_with fail
          refine (pick_any _ 5 wr (HSB.out _ (mem_at (by rw [HM.out]; exact hr2))).1 (HSB.out _ (mem_at (by rw [HM.out]; exact hr2))).2 (by omega) (by omega)).mono ?_
          rintro e w' ⟨⟨r, rfl, hr0, hr5⟩, rfl⟩
          go_wp2
          go_meet
          case rel => exact ⟨(1 + r).toNat, by omega, by omega, by go_num, rfl⟩
        · have hm0 : m = 0 := by omega
          subst hm0
          go_wp2
          go_meet
          case rel => exact ⟨1, by omega, by omega, rfl, rfl⟩
      case rest =>
        obtain ⟨q, hq1, hq5, rfl, rfl⟩ := hcut
        have A0 := hideIt (M.rowNil (e := 3) (z := 1) (M.rowNil (e := 3) (z := 1) (hM.out.alloc #[.int .i64 0, .int .i64 0, .int .i64 0, .slice none 0 0, .slice none 0 0] 67)))
        go_wp2
        obtain ⟨gl, hgl⟩ : ∃ g, wc.heap.size = g := ⟨_, rfl⟩
        rw [hgl] at A0 ⊢
        clear hgl
        go_loopw [6, 10] (fun a j wx => ∃ (t s : Nat) (ks vs : List Int) (kv vv : Value), Hid (s = p + t) ∧ s ≤ n ∧ t ≤ q ∧ a = .int .i64 s ∧ j = .int .i64 t ∧ Hid (M w w.heap.size wx (.blk gl #[.int .i64 0, .int .i64 0, .int .i64 0, kv, vv] 67 :: .row 3 1 kv t (ints ks) :: .row 3 1 vv t (ints vs) :: .row 67 5 (.slice ao ns.length co) ns.length (ncells ns) :: nrows ns)) ∧ Hid (ks = (L.drop p).take t ∧ vs.length = t)) (fun _ j _ => q - (intOf j).toNat)
        case atStart => exact ⟨0, p, [], [], .slice none 0 0, .slice none 0 0, rfl, by omega, Nat.zero_le _, rfl, rfl, A0.out, ⟨rfl, rfl⟩⟩
        case round =>
          obtain ⟨t, s, ks, vs, kv, vv, HPT, ht1, ht2, rfl, rfl, hT, hJ⟩ := hrel
          obtain ⟨ka, kc, rfl⟩ := As.form0 (hT.out.get (i := 1) rfl)
          obtain ⟨va, vc, rfl⟩ := As.form0 (hT.out.get (i := 2) rfl)
          have q3 := hT.out.cell (i := 0) rfl 3 (.slice ka t kc) rfl
          have f3 := hT.out.free (i := 0) rfl 3
          have hblx := hT.out.bl
          have hszx := hT.out.lt (i := 0) rfl
          by_cases hgo : t < q ∧ s < n
          · obtain ⟨hgo1, hgo2⟩ := hgo
            have g1 : (t : Int) < (q : Int) := by omega
            have g2 : (s : Int) < (n : Int) := by omega
            have g3 : (0 : Int) ≤ (s : Int) := by omega
            obtain ⟨b1, o1, rfl, -, x1⟩ := HK.out.elem s hgo2
            have y1 := x1 _ hblx
            obtain ⟨x, hx⟩ : ∃ x, L[s]?.getD 0 = x := ⟨_, rfl⟩
            rw [hx] at y1
            have hxb : 1 ≤ x ∧ x ≤ 9999 := by rw [← hx]; exact HLB.out _ (mem_at (by rw [HN.out]; exact hgo2))
            have HX := hideIt hx
            clear x1 hx
            go_upto_region 13 with fail
            go_cut [] from 30 to 64 (fun wy => ∃ kv', Hid (M w w.heap.size wy (.blk gl #[.int .i64 0, .int .i64 0, .int .i64 0, kv', (.slice va t vc)] 67 :: .row 3 1 kv' (t + 1) (ints (ks ++ [x])) :: .row 3 1 (.slice va t vc) t (ints vs) :: .row 67 5 (.slice ao ns.length co) ns.length (ncells ns) :: nrows ns)))
            case first =>
              go_region_law (refine step_append_lies _ rfl _ _ 22 rfl w.heap.size 3 i0 (.int .i64 0) 1 8 Tryz.underlying22 hi0 hz0 hz1 hz2 rfl (by decide) _ t (ints ks) rfl (World.ownsRow.alloc (hT.out.get (i := 1) rfl) _) ⟨wr.heap.size, 0, none⟩ 1 1 [.int .i64 x] rfl rfl (news_one _ _ _) (by simp [Value.oneCell']) (by omega) (by unfold maxLen; omega) (by omega) (by have := hT.out.sz; simp at this ⊢; omega) _ rfl ?_; intro g cap w1 hown hgrow hat hlt1; rw [← ints_snoc] at hown; have hm := (hT.out.allocd (.cells #[.int .i64 x] 3)).drew.lies (i := 1) rfl hown hgrow hat; clear q3 f3 hown hgrow hat; have q3 := hm.cell (i := 0) rfl 3 (.slice ka t kc) rfl; have f3 := hm.free (i := 0) rfl 3; have H1 := hideIt (hm.store (i := 0) (j := 3) rfl (.slice (some ⟨g, 0, none⟩) (t + 1) cap) rfl); clear hm)
              all_goals
                go_wp2
                go_meet
                case rel => exact ⟨_, H1.out⟩
            case rest =>
              obtain ⟨kv', hT2⟩ := hcut
              clear hT q3 f3 y1 hblx hszx
              obtain ⟨ka', kc', rfl⟩ := As.form0 (hT2.out.get (i := 1) rfl)
              have q4 := hT2.out.cell (i := 0) rfl 4 (.slice va t vc) rfl
              have f4 := hT2.out.free (i := 0) rfl 4
              have hblx := hT2.out.bl
              have hszx := hT2.out.lt (i := 0) rfl
              obtain ⟨b2, o2, e2, -, x1⟩ := HK.out.elem s hgo2
              cases e2
              have y1 := x1 _ hblx
              rw [HX.out] at y1
              obtain ⟨hx1, hx2⟩ := hxb
              clear x1
              go_upto_region 14 with fail
              go_cut [] from 30 to 64 (fun wy => ∃ vv' y, Hid (M w w.heap.size wy (.blk gl #[.int .i64 0, .int .i64 0, .int .i64 0, (.slice ka' (t + 1) kc'), vv'] 67 :: .row 3 1 (.slice ka' (t + 1) kc') (t + 1) (ints (ks ++ [x])) :: .row 3 1 vv' (t + 1) (ints (vs ++ [y])) :: .row 67 5 (.slice ao ns.length co) ns.length (ncells ns) :: nrows ns)))
              case first =>
                rename_i wz _
                go_region_law (refine step_append_lies _ rfl _ _ 22 rfl w.heap.size 3 i0 (.int .i64 0) 1 8 Tryz.underlying22 hi0 hz0 hz1 hz2 rfl (by decide) _ t (ints vs) rfl (World.ownsRow.alloc (hT2.out.get (i := 2) rfl) _) ⟨_, 0, none⟩ 1 1 [.int .i64 _] rfl rfl (news_one _ _ _) (by simp [Value.oneCell']) (by omega) (by unfold maxLen; omega) (by omega) (by have := hT2.out.sz; simp at this ⊢; omega) _ rfl ?_; intro g cap w1 hown hgrow hat hlt1; rw [← ints_snoc] at hown; have hm := (hT2.out.allocd _).drew.lies (i := 2) rfl hown hgrow hat; clear q4 f4 hown hgrow hat; have q4 := hm.cell (i := 0) rfl 4 (.slice va t vc) rfl; have f4 := hm.free (i := 0) rfl 4; have H1 := hideIt (hm.store (i := 0) (j := 4) rfl (.slice (some ⟨g, 0, none⟩) (t + 1) cap) rfl); clear hm)
                all_goals
                  go_wp2
                  go_meet
                  case rel => exact ⟨_, _, H1.out⟩
              case rest =>
                obtain ⟨vv', y, hT3⟩ := hcut
                obtain ⟨va', vc', rfl⟩ := As.form0 (hT3.out.get (i := 2) rfl)
                clear hT2 q4 f4 y1 hblx hszx
                go_wp2
                go_roundw
                case rel =>
                  refine ⟨t + 1, s + 1, ks ++ [x], vs ++ [y], _, _, ?_, by omega, by omega, by go_num, by go_num, hT3.out, ?_, ?_⟩
                  · unfold Hid; have := HPT.out; omega
                  · rw [hJ.out.1, List.take_add_one, List.getElem?_drop, ← HPT.out, List.getElem?_eq_getElem (by rw [HN.out]; exact hgo2)]
                    have := HX.out
                    rw [List.getElem?_eq_getElem (by rw [HN.out]; exact hgo2)] at this
                    simp at this
                    rw [this]; rfl
                  · rw [List.length_append, hJ.out.2]; rfl
                case measure => simp [intOf]; omega
          · have ht0 : 1 ≤ t := by have := HPT.out; omega
            have q0 := hT.out.cell (i := 0) rfl 0 (.int .i64 0) rfl
            have q1 := hT.out.cell (i := 0) rfl 1 (.int .i64 0) rfl
            have q2 := hT.out.cell (i := 0) rfl 2 (.int .i64 0) rfl
            have q4 := hT.out.cell (i := 0) rfl 4 (.slice va t vc) rfl
            have hkl : ks.length = t := by rw [hJ.out.1, List.length_take, List.length_drop, HN.out]; have := HPT.out; omega
            have HKL := hideIt hkl
            have hfin : ∀ (v : Value) (wf : World), M w w.heap.size wf (.blk gl #[.int .i64 0, .int .i64 0, .int .i64 0, .slice ka t kc, .slice va t vc] 67 :: .row 3 1 (.slice ka t kc) t (ints ks) :: .row 3 1 (.slice va t vc) t (ints vs) :: .row 67 5 v (ns.length + 1) (ncells ns ++ [.int .i64 0, .int .i64 0, .int .i64 0, .slice ka t kc, .slice va t vc]) :: nrows ns) → M w w.heap.size wf (.row 67 5 v (ns ++ [(⟨⟨0, 0, 0, ks, vs⟩, .slice ka t kc, .slice va t vc⟩ : Nv)]).length (ncells (ns ++ [(⟨⟨0, 0, 0, ks, vs⟩, .slice ka t kc, .slice va t vc⟩ : Nv)])) :: nrows (ns ++ [(⟨⟨0, 0, 0, ks, vs⟩, .slice ka t kc, .slice va t vc⟩ : Nv)])) := by
              intro v wf h
              have h2 := h.push
              rw [ncells_snoc, nrows_snoc, List.length_append]
              simp only [Nv.cells, Nv.rows, hkl, hJ.out.2]
              exact h2
            have HF := hideIt hfin
            clear hkl hfin
            by_cases hgo1 : t < q
            · have g1 : (t : Int) < (q : Int) := by omega
              have g2 : (n : Int) ≤ (s : Int) := by omega
              clear hgo
              go_wp2_with (at_builtin; refine wpList_append_lies _ rfl _ _ 63 rfl w.heap.size 67 j0 (.agg #[.int .i64 0, .int .i64 0, .int .i64 0, .slice none 0 0, .slice none 0 0]) 5 72 Tryz.underlying63 hj0 hy0 hy1 hy2 rfl (by decide) _ ns.length (ncells ns) rfl (World.ownsRow.alloc (hT.out.get (i := 3) rfl) _) ⟨_, 0, none⟩ 1 1 [.int .i64 0, .int .i64 0, .int .i64 0, .slice ka t kc, .slice va t vc] rfl rfl (World.news_of_block (heap_alloc_new _ _)) (by simp [Value.oneCell']) (by omega) (by unfold maxLen; omega) (by omega) (by have := hT.out.sz; simp at this ⊢; omega) _ rfl ?_; intro g cap w1 hown hgrow hat hlt1; have H1 := hideIt ((hT.out.allocd _).lies (i := 3) rfl hown hgrow hat); clear hown hgrow hat)
              go_roundw
              case rel => exact ⟨s, ns ++ [(⟨⟨0, 0, 0, ks, vs⟩, .slice ka t kc, .slice va t vc⟩ : Nv)], by omega, by rw [List.length_append]; have := HPT.out; simp; omega, rfl, by rw [List.length_append]; go_num, HF.out _ _ H1.out, leafL_snoc hI.out.1 hI.out.2 (by rw [HKL.out]; omega) (HKL.out.trans hJ.out.2.symm) hJ.out.1 HPT.out⟩
              case measure => simp [intOf]; have := HPT.out; omega
            · have g1 : (q : Int) ≤ (t : Int) := by omega
              clear hgo
              go_wp2_with (at_builtin; refine wpList_append_lies _ rfl _ _ 63 rfl w.heap.size 67 j0 (.agg #[.int .i64 0, .int .i64 0, .int .i64 0, .slice none 0 0, .slice none 0 0]) 5 72 Tryz.underlying63 hj0 hy0 hy1 hy2 rfl (by decide) _ ns.length (ncells ns) rfl (World.ownsRow.alloc (hT.out.get (i := 3) rfl) _) ⟨_, 0, none⟩ 1 1 [.int .i64 0, .int .i64 0, .int .i64 0, .slice ka t kc, .slice va t vc] rfl rfl (World.news_of_block (heap_alloc_new _ _)) (by simp [Value.oneCell']) (by omega) (by unfold maxLen; omega) (by omega) (by have := hT.out.sz; simp at this ⊢; omega) _ rfl ?_; intro g cap w1 hown hgrow hat hlt1; have H1 := hideIt ((hT.out.allocd _).lies (i := 3) rfl hown hgrow hat); clear hown hgrow hat)
              go_roundw
              case rel => exact ⟨s, ns ++ [(⟨⟨0, 0, 0, ks, vs⟩, .slice ka t kc, .slice va t vc⟩ : Nv)], by omega, by rw [List.length_append]; have := HPT.out; simp; omega, rfl, by rw [List.length_append]; go_num, HF.out _ _ H1.out, leafL_snoc hI.out.1 hI.out.2 (by rw [HKL.out]; omega) (HKL.out.trans hJ.out.2.symm) hJ.out.1 HPT.out⟩
              case measure => simp [intOf]; have := HPT.out; omega
    · obtain rfl : p = n := by omega
      have HE : Hid (keysOf ns = L) := by have := hI.out.2; rw [← HN.out, List.take_length] at this; exact this
      by_cases hn0 : ns.length = 0
      · have hns : ns = [] := List.eq_nil_of_length_eq_zero hn0
        subst hns
        have hM0 : Hid (M w w.heap.size wr [.row 67 5 (.slice ao 0 co) 0 []]) := hM.out
        rw [List.length_nil]
        clear hM hn0
        go_wp2_with (at_builtin; refine wpList_append_lies _ rfl _ _ 63 rfl w.heap.size 67 j0 (.agg #[.int .i64 0, .int .i64 0, .int .i64 0, .slice none 0 0, .slice none 0 0]) 5 72 Tryz.underlying63 hj0 hy0 hy1 hy2 rfl (by decide) _ 0 [] rfl (World.ownsRow.alloc (hM0.out.get (i := 0) rfl) _) ⟨_, 0, none⟩ 1 1 [.int .i64 0, .int .i64 0, .int .i64 0, .slice none 0 0, .slice none 0 0] rfl rfl (World.news_of_block (heap_alloc_new _ _)) (by simp [Value.oneCell']) (by omega) (by unfold maxLen; omega) (by omega) (by have := hM0.out.sz; simp at this ⊢; omega) _ rfl ?_; intro g cap w1 hown hgrow hat hlt1; have H1 := hideIt ((hM0.out.allocd _).lies (i := 0) rfl hown hgrow hat); clear hown hgrow hat)
        go_ret
        refine ⟨_, [⟨⟨0, 0, 0, [], []⟩, .slice none 0 0, .slice none 0 0⟩], rfl, ?_, ?_, Or.inr ⟨?_, rfl⟩⟩
        · exact M.snocNil (e := 3) (z := 1) (M.snocNil (e := 3) (z := 1) H1.out)
        · exact HE.out
        · exact HE.out.symm
      · have hn1 : ((ns.length : Int) == 0) = false := by rw [beq_eq_false_iff_ne]; omega
        have HNE : Hid (ns ≠ []) := fun e => hn0 (by rw [e]; rfl)
        clear hn0
        go_wp2
        go_ret
        exact ⟨_, ns, rfl, hM.out, HE.out, Or.inl ⟨hI.out.1, HNE.out⟩⟩
end Go.Proofs.YtajobgmnmbnhiaaGreatDoor.Sap

/- WHAT IS PROVED HERE: how an operation of saplingkeep lies in memory. Conditions: none. -/
namespace Go.Proofs.YtajobgmnmbnhiaaGreatDoor.Sap
open Go.RowKit

theorem infoDeed : (Tryz.prog.info? 40).map (fun i => (i.zero, i.size, i.bytes)) = some (some (.pointer none), 1, 8) := by kernel_rfl
/-- The cells of an operation that is under way or has ended. -/
def DC (k key v : Int) (f : ByteArray) (tv kv : Value) (rf en : Bool) (er : Int) (fd : Bool) (va pt : Int) (ks vs cs : Value) : Array Value := #[.int .i64 k, .int .i64 key, .int .i64 v, .string f, tv, kv, .bool rf, .bool en, .int .i64 er, .bool fd, .int .i64 va, .int .i64 pt, ks, vs, cs]

theorem M.bne {w0 w : World} {B i j b g : Nat} {l : List As} {c d : Array Value} {t u : TypeId} (h : M w0 B w l) (hi : l[i]? = some (.blk b c t)) (hj : l[j]? = some (.blk g d u)) (hij : i < j) : b ≠ g := by
  intro e
  subst e
  have hil : i < l.length := (List.getElem?_eq_some_iff.1 hi).1
  have hjl : j < l.length := (List.getElem?_eq_some_iff.1 hj).1
  have hia := (List.getElem?_eq_some_iff.1 hi).2
  have hja := (List.getElem?_eq_some_iff.1 hj).2
  have := List.pairwise_iff_getElem.1 h.apart i j hil hjl hij
  rw [hia, hja] at this
  exact this b rfl rfl
end Go.Proofs.YtajobgmnmbnhiaaGreatDoor.Sap
