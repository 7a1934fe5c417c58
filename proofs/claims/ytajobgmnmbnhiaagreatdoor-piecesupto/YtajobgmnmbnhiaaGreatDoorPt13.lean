/- WHAT IS PROVED HERE: saplingkeep.fresh makes the pages at the beginning: 64 of them, page 0 has the first text, no client has an operation under way. Conditions: none. -/
import Derived.Test.YtajobgmnmbnhiaaGreatDoorPt07
import Derived.Test.YtajobgmnmbnhiaaGreatDoorPt10
import Derived.Deep.RegionHeld3
import Derived.Deep.DeepCutAuto
import Derived.Deep.RegionLaw
namespace Go.Proofs.YtajobgmnmbnhiaaGreatDoor.Sap
open Go.RowKit
theorem infoStr : (Tryz.prog.info? 9).map (fun i => (i.zero, i.size, i.bytes)) = some (some (.string ⟨#[]⟩), 1, 16) := by kernel_rfl
theorem infoBool : (Tryz.prog.info? 4).map (fun i => (i.zero, i.size, i.bytes)) = some (some (.bool false), 1, 1) := by kernel_rfl
def WC (tv uv vv dv bv : Value) (now puts : Int) (rf il wt bk kp : Bool) (cv ov : Value) (bad : Bool) : Array Value := #[tv, uv, vv, dv, bv, .int .i64 now, .int .i64 puts, .bool rf, .bool il, .bool wt, .bool bk, .bool kp, cv, ov, .bool bad]
def strs (l : List ByteArray) : List Value := l.map Value.string
def bools (l : List Bool) : List Value := l.map Value.bool
theorem rep_snoc (n : Nat) (v : Value) : List.replicate n v ++ [v] = List.replicate (n + 1) v := by rw [List.replicate_succ']
theorem M.ne {w0 w : World} {B i j b g : Nat} {l : List As} {c : Array Value} {t e : TypeId} {z n m cap : Nat} {xs : List Value} (h : M w0 B w l) (hi : l[i]? = some (.blk b c t)) (hj : l[j]? = some (.row e z (.slice (some ⟨g, 0, none⟩) m cap) n xs)) : b ≠ g := by
  intro e
  subst e
  have hil : i < l.length := (List.getElem?_eq_some_iff.1 hi).1
  have hjl : j < l.length := (List.getElem?_eq_some_iff.1 hj).1
  have hia := (List.getElem?_eq_some_iff.1 hi).2
  have hja := (List.getElem?_eq_some_iff.1 hj).2
  have hp := List.pairwise_iff_getElem.1 h.apart
  rcases Nat.lt_trichotomy i j with hlt | rfl | hlt
  · have := hp i j hil hjl hlt; rw [hia, hja] at this; exact this b rfl rfl
  · rw [hi] at hj; cases hj
  · have := hp j i hjl hil hlt; rw [hia, hja] at this; exact this b rfl rfl
theorem M.snocNil {w0 w : World} {B : Nat} {l : List As} {e : TypeId} {z : Nat} (h : M w0 B w l) : M w0 B w (l ++ [.row e z (.slice none 0 0) 0 []]) := by
  refine ⟨fun b hb => ?_, ?_, h.bl, h.sz⟩
  · rcases List.mem_append.1 hb with hb | hb
    · exact h.holds _ hb
    · rcases List.mem_singleton.1 hb with rfl
      exact World.ownsRow_nil _ _ _ _
  · refine List.pairwise_append.2 ⟨h.apart, List.pairwise_singleton _ _, fun a _ b hb k _ h2 => ?_⟩
    rcases List.mem_singleton.1 hb with rfl
    simp [Value.ownBlock] at h2
theorem M.rowNil {w0 w : World} {B : Nat} {a : As} {l : List As} {e : TypeId} {z : Nat} (h : M w0 B w (a :: l)) : M w0 B w (a :: .row e z (.slice none 0 0) 0 [] :: l) := by
  refine ⟨fun b hb => ?_, ?_, h.bl, h.sz⟩
  · rcases List.mem_cons.1 hb with rfl | hb
    · exact h.holds _ (by simp)
    · rcases List.mem_cons.1 hb with rfl | hb
      · exact World.ownsRow_nil _ _ _ _
      · exact h.holds _ (by simp [hb])
  · have hp := List.pairwise_cons.1 h.apart
    refine List.pairwise_cons.2 ⟨fun b hb => ?_, List.pairwise_cons.2 ⟨fun b _ k h1 => by simp [Value.ownBlock] at h1, hp.2⟩⟩
    rcases List.mem_cons.1 hb with rfl | hb
    · exact fun k _ h2 => by simp [Value.ownBlock] at h2
    · exact hp.1 b hb
def FreshR (w w' : World) (e : Ending) : Prop :=
  ∃ tv uv vv bv, e = .returned (.pointer (some ⟨w.heap.size, 0, none⟩)) ∧ M w w.heap.size w' [.blk w.heap.size (WC tv uv vv (.slice none 0 0) bv 0 0 false false false false false (.slice none 0 0) (.slice none 0 0) false) 34, .row 9 1 tv 64 (.string firstB :: List.replicate 63 (.string ⟨#[]⟩)), .row 4 1 uv 64 (.bool true :: List.replicate 63 (.bool false)), .row 3 1 vv 64 (List.replicate 64 (.int .i64 0)), .row 3 1 bv 64 (List.replicate 64 (.int .i64 (-1)))]
set_option maxRecDepth 100000 in
set_option maxHeartbeats 3200000 in
theorem fresh_any (w : World) : Calls Tryz.prog 15 #[] w fun e w' => FreshR w w' e := by
  obtain ⟨i0, hi0, hz0, hz1, hz2⟩ := info_parts infoInt
  obtain ⟨j0, hj0, hy0, hy1, hy2⟩ := info_parts infoStr
  obtain ⟨k0, hk0, hx0, hx1, hx2⟩ := info_parts infoBool
  have A0 := hideIt ((M.start w).alloc (WC (.slice none 0 0) (.slice none 0 0) (.slice none 0 0) (.slice none 0 0) (.slice none 0 0) 0 0 false false false false false (.slice none 0 0) (.slice none 0 0) false) 34)
  go_enter Tryz.func15, Tryz.ntmps15
  go_wp2
  go_loopw [2] (fun i wr => ∃ k : Nat, ∃ tv uv vv : Value, k ≤ 64 ∧ i = .int .i64 k ∧ Hid (M w w.heap.size wr [.blk w.heap.size (WC tv uv vv (.slice none 0 0) (.slice none 0 0) 0 0 false false false false false (.slice none 0 0) (.slice none 0 0) false) 34, .row 9 1 tv k (List.replicate k (.string ⟨#[]⟩)), .row 4 1 uv k (List.replicate k (.bool false)), .row 3 1 vv k (List.replicate k (.int .i64 0))])) (fun i _ => 64 - (intOf i).toNat)
  case atStart =>
    refine ⟨0, .slice none 0 0, .slice none 0 0, .slice none 0 0, Nat.zero_le _, rfl, ?_⟩
    exact M.rowNil (M.rowNil (M.rowNil A0.out))
  case round =>
    obtain ⟨k, tv, uv, vv, hk, rfl, hM⟩ := hrel
    obtain ⟨ta, tc, rfl⟩ := As.form0 (hM.out.get (i := 1) rfl)
    obtain ⟨ua, uc, rfl⟩ := As.form0 (hM.out.get (i := 2) rfl)
    obtain ⟨va, vc, rfl⟩ := As.form0 (hM.out.get (i := 3) rfl)
    have hsz := hM.out.lt (i := 0) rfl
    have q0 := hM.out.cell (i := 0) rfl 0 _ rfl
    have q1 := hM.out.cell (i := 0) rfl 1 _ rfl
    have q2 := hM.out.cell (i := 0) rfl 2 _ rfl
    have f0 := hM.out.free (i := 0) rfl 0
    have f1 := hM.out.free (i := 0) rfl 1
    have f2 := hM.out.free (i := 0) rfl 2
    by_cases hlt : k < 64
    · have hkk : (k : Int) < 64 := by omega
      go_wp2_with (first
        | (at_builtin; refine wpList_append_own_at _ rfl _ _ 28 rfl w.heap.size 9 j0 (.string ⟨#[]⟩) 1 16 Tryz.underlying28 hj0 hy0 hy1 hy2 rfl (by decide) _ k (List.replicate k (.string ⟨#[]⟩)) rfl (World.ownsRow.alloc (hM.out.get (i := 1) rfl) _) ⟨wr.heap.size, 0, none⟩ 1 1 [.string ⟨#[]⟩] rfl rfl (news_one _ _ _) (by simp [Value.oneCell']) (by unfold maxLen; omega) (by omega) (by have := hM.out.sz; simp at this ⊢; omega) ?_; intro v1 w1 hown hgrow _ hat; obtain ⟨a1, c1, rfl⟩ := own_form hown; rw [rep_snoc] at hown; have hm := (hM.out.allocd (.cells #[.string ⟨#[]⟩] 9)).append (i := 1) rfl hown hgrow hat; clear q0 q1 q2 f0 f1 f2 hown hgrow hat; have q0 := hm.cell (i := 0) rfl 0 _ rfl; have q1 := hm.cell (i := 0) rfl 1 _ rfl; have q2 := hm.cell (i := 0) rfl 2 _ rfl; have f0 := hm.free (i := 0) rfl 0; have f1 := hm.free (i := 0) rfl 1; have f2 := hm.free (i := 0) rfl 2; have hsz1 := hm.lt (i := 0) rfl; have H1 := hideIt (hm.store (i := 0) (j := 0) rfl (.slice a1 (k + 1) c1) rfl); clear hm)
        | (at_builtin; refine wpList_append_own_at _ rfl _ _ 29 rfl w.heap.size 4 k0 (.bool false) 1 1 Tryz.underlying29 hk0 hx0 hx1 hx2 rfl (by decide) _ k (List.replicate k (.bool false)) rfl (World.ownsRow.alloc (H1.out.get (i := 2) rfl) _) ⟨w1.heap.size, 0, none⟩ 1 1 [.bool false] rfl rfl (by have := news_one (w1.setCell ⟨w.heap.size, 0, none⟩ (.slice a1 (k + 1) c1)) (.bool false) 4; simpa using this) (by simp [Value.oneCell']) (by unfold maxLen; omega) (by omega) (by have := H1.out.sz; simp at this ⊢; omega) ?_; intro v2 w2 hown hgrow _ hat; obtain ⟨a2, c2, rfl⟩ := own_form hown; rw [rep_snoc] at hown; have hm := (H1.out.allocd (.cells #[.bool false] 4)).append (i := 2) rfl hown hgrow hat; clear q0 q1 q2 f0 f1 f2 hown hgrow hat; have q0 := hm.cell (i := 0) rfl 0 _ rfl; have q1 := hm.cell (i := 0) rfl 1 _ rfl; have q2 := hm.cell (i := 0) rfl 2 _ rfl; have f0 := hm.free (i := 0) rfl 0; have f1 := hm.free (i := 0) rfl 1; have f2 := hm.free (i := 0) rfl 2; have hsz2 := hm.lt (i := 0) rfl; have H2 := hideIt (hm.store (i := 0) (j := 1) rfl (.slice a2 (k + 1) c2) rfl); clear hm)
        | (at_builtin; refine wpList_append_own_at _ rfl _ _ 22 rfl w.heap.size 3 i0 (.int .i64 0) 1 8 Tryz.underlying22 hi0 hz0 hz1 hz2 rfl (by decide) _ k (List.replicate k (.int .i64 0)) rfl (World.ownsRow.alloc (H2.out.get (i := 3) rfl) _) ⟨w2.heap.size, 0, none⟩ 1 1 [.int .i64 0] rfl rfl (by have := news_one (w2.setCell ⟨w.heap.size, 1, none⟩ (.slice a2 (k + 1) c2)) (.int .i64 0) 3; simpa using this) (by simp [Value.oneCell']) (by unfold maxLen; omega) (by omega) (by have := H2.out.sz; simp at this ⊢; omega) ?_; intro v3 w3 hown hgrow _ hat; obtain ⟨a3, c3, rfl⟩ := own_form hown; rw [rep_snoc] at hown; have hm := (H2.out.allocd (.cells #[.int .i64 0] 3)).append (i := 3) rfl hown hgrow hat; clear q0 q1 q2 f0 f1 f2 hown hgrow hat; have q0 := hm.cell (i := 0) rfl 0 _ rfl; have q1 := hm.cell (i := 0) rfl 1 _ rfl; have q2 := hm.cell (i := 0) rfl 2 _ rfl; have f0 := hm.free (i := 0) rfl 0; have f1 := hm.free (i := 0) rfl 1; have f2 := hm.free (i := 0) rfl 2; have hsz3 := hm.lt (i := 0) rfl; have H3 := hideIt (hm.store (i := 0) (j := 2) rfl (.slice a3 (k + 1) c3) rfl); clear hm))
      go_roundw
      case rel => exact ⟨k + 1, _, _, _, by omega, by go_num, H3.out⟩
      case measure => simp [intOf]; omega
    · obtain rfl : k = 64 := by omega
      rw [show ((64 : Nat) : Int) = 64 from rfl]
      obtain ⟨tg, tc2, ht⟩ := As.form (hM.out.get (i := 1) rfl) (by omega)
      obtain ⟨ug, uc2, hu⟩ := As.form (hM.out.get (i := 2) rfl) (by omega)
      cases ht
      cases hu
      have hne1 := hM.out.ne (i := 0) (j := 1) rfl rfl
      have hne2 := hM.out.ne (i := 0) (j := 2) rfl rfl
      have t0 : wr.cell? ⟨tg, 0, none⟩ = some (.string ⟨#[]⟩) := by rw [World.ownsRow.cellAt (hM.out.get (i := 1) rfl) 0 (by omega)]; rfl
      have tf0 : wr.frozen? ⟨tg, 0, none⟩ = false := World.ownsRow.frozenAt (hM.out.get (i := 1) rfl) 0
      have HNE := hideIt hne1
      clear hlt
      go_upto_region 8 with fail
      go_cut [] (fun wx => Hid (M w w.heap.size wx [.blk w.heap.size (WC (.slice (some ⟨tg, 0, none⟩) 64 tc) (.slice (some ⟨ug, 0, none⟩) 64 uc) (.slice va 64 vc) (.slice none 0 0) (.slice none 0 0) 0 0 false false false false false (.slice none 0 0) (.slice none 0 0) false) 34, .row 9 1 (.slice (some ⟨tg, 0, none⟩) 64 tc) 64 (.string firstB :: List.replicate 63 (.string ⟨#[]⟩)), .row 4 1 (.slice (some ⟨ug, 0, none⟩) 64 uc) 64 (List.replicate 64 (.bool false)), .row 3 1 (.slice va 64 vc) 64 (List.replicate 64 (.int .i64 0))]))
      case first =>
        go_region_held3 (fun W => W.cell? ⟨w.heap.size, 0, none⟩ = some (.slice (some ⟨tg, 0, none⟩) 64 tc)) (first | exact q0 | exact (cell_set_blk _ _ _ _ _ _ HNE.out).trans q0) ((go_at_call 7; refine (first_any _).mono ?_; rintro e w' ⟨rfl, rfl⟩))
        all_goals
          go_wp2
          go_meet
          case rel =>
            exact (hM.out.storeRow (i := 1) (j := 0) rfl (.string firstB)).drew
      case rest =>
        have hN := hideIt (M.storeRow hcut.out (i := 2) (j := 0) rfl (.bool true))
        have p1 := M.cell hcut.out (i := 0) rfl 1 (.slice (some ⟨ug, 0, none⟩) 64 uc) rfl
        have u0 : wc.cell? ⟨ug, 0, none⟩ = some (.bool false) := by rw [World.ownsRow.cellAt (M.get hcut.out (i := 2) rfl) 0 (by omega)]; rfl
        have uf0 : wc.frozen? ⟨ug, 0, none⟩ = false := World.ownsRow.frozenAt (M.get hcut.out (i := 2) rfl) 0
        clear hcut q0 q1 q2 f0 f1 f2 t0 tf0 hne1
        go_wp2
        go_loopw [3] (fun i wr => ∃ k : Nat, ∃ bv : Value, k ≤ 64 ∧ i = .int .i64 k ∧ Hid (M w w.heap.size wr [.blk w.heap.size (WC (.slice (some ⟨tg, 0, none⟩) 64 tc) (.slice (some ⟨ug, 0, none⟩) 64 uc) (.slice va 64 vc) (.slice none 0 0) bv 0 0 false false false false false (.slice none 0 0) (.slice none 0 0) false) 34, .row 9 1 (.slice (some ⟨tg, 0, none⟩) 64 tc) 64 (.string firstB :: List.replicate 63 (.string ⟨#[]⟩)), .row 4 1 (.slice (some ⟨ug, 0, none⟩) 64 uc) 64 (.bool true :: List.replicate 63 (.bool false)), .row 3 1 (.slice va 64 vc) 64 (List.replicate 64 (.int .i64 0)), .row 3 1 bv k (List.replicate k (.int .i64 (-1)))])) (fun i _ => 64 - (intOf i).toNat)
        case atStart =>
          refine ⟨0, .slice none 0 0, Nat.zero_le _, rfl, ?_⟩
          exact M.snocNil hN.out
        case round =>
          clear hN p1 u0 uf0
          obtain ⟨k, bv, hk, rfl, hN⟩ := hrel
          obtain ⟨ba, bc, rfl⟩ := As.form0 (hN.out.get (i := 4) rfl)
          have hsz1 := hN.out.lt (i := 0) rfl
          have q4 := hN.out.cell (i := 0) rfl 4 (.slice ba k bc) rfl
          have f4 := hN.out.free (i := 0) rfl 4
          by_cases hlt : k < 64
          · have hkk : (k : Int) < 64 := by omega
            rename_i wq _
            go_wp2_with (at_builtin; refine wpList_append_own_at _ rfl _ _ 22 rfl w.heap.size 3 i0 (.int .i64 0) 1 8 Tryz.underlying22 hi0 hz0 hz1 hz2 rfl (by decide) _ k (List.replicate k (.int .i64 (-1))) rfl (World.ownsRow.alloc (hN.out.get (i := 4) rfl) _) ⟨_, 0, none⟩ 1 1 [.int .i64 (-1)] rfl rfl (news_one _ _ _) (by simp [Value.oneCell']) (by unfold maxLen; omega) (by omega) (by have := hN.out.sz; simp at this ⊢; omega) ?_; intro v1 w1 hown hgrow _ hat; obtain ⟨a1, c1, rfl⟩ := own_form hown; rw [rep_snoc] at hown; have hm := (hN.out.allocd (.cells #[.int .i64 (-1)] 3)).append (i := 4) rfl hown hgrow hat; clear q4 f4 hown hgrow hat; have q4 := hm.cell (i := 0) rfl 4 _ rfl; have f4 := hm.free (i := 0) rfl 4; have H1 := hideIt (hm.store (i := 0) (j := 4) rfl (.slice a1 (k + 1) c1) rfl); clear hm)
            go_roundw
            case rel => exact ⟨k + 1, _, by omega, by go_num, H1.out⟩
            case measure => simp [intOf]; omega
          · obtain rfl : k = 64 := by omega
            go_wp2
            go_ret
            exact ⟨_, _, _, _, rfl, hN.out⟩
set_option maxRecDepth 100000 in
set_option maxHeartbeats 1600000 in
theorem there_yes (gw ug uc p : Nat) (w : World) (h1 : w.cell? ⟨gw, 1, none⟩ = some (.slice (some ⟨ug, 0, none⟩) 64 uc)) (h2 : w.cell? ⟨ug, p, none⟩ = some (.bool true)) (hp : p < 64) :
    Calls Tryz.prog 62 #[.pointer (some ⟨gw, 0, none⟩), .int .i64 p] w fun e w' => e = .returned (.bool true) ∧ w' = w := by
  have hp1 : (0 : Int) ≤ (p : Int) := by omega
  have hp2 : (p : Int) < 64 := by omega
  go_enter Tryz.func62, Tryz.ntmps62
  go_wp2
  go_ret
  exact ⟨rfl, rfl⟩
set_option maxRecDepth 100000 in
set_option maxHeartbeats 1600000 in
theorem legal_read (gw ug uc p : Nat) (dv : Value) (w : World) (h1 : w.cell? ⟨gw, 1, none⟩ = some (.slice (some ⟨ug, 0, none⟩) 64 uc)) (h2 : w.cell? ⟨ug, p, none⟩ = some (.bool true)) (hp : p < 64) :
    Calls Tryz.prog 43 #[.pointer (some ⟨gw, 0, none⟩), dv, .agg #[.int .i64 1, .int .i64 p, .int .i64 0, .string ⟨#[]⟩]] w fun e w' => e = .returned (.bool true) ∧ Below w.heap.size w w' := by
  have B0 : ∀ o, Hid (Below w.heap.size w (w.alloc o)) := fun o => (Below.refl _ _).alloc (Nat.le_refl _) o
  have k1 : ∀ o, Hid ((w.alloc o).cell? ⟨gw, 1, none⟩ = some (.slice (some ⟨ug, 0, none⟩) 64 uc)) := fun o => cell_below (B0 o).out _ _ h1
  have k2 : ∀ o, Hid ((w.alloc o).cell? ⟨ug, p, none⟩ = some (.bool true)) := fun o => cell_below (B0 o).out _ _ h2
  clear h1 h2
  go_enter Tryz.func43, Tryz.ntmps43
  go_wp2_with fail
  refine (there_yes gw ug uc p _ (k1 _).out (k2 _).out hp).mono ?_
  rintro e w' ⟨rfl, rfl⟩
  go_wp2
  go_ret
  exact ⟨rfl, (B0 _).out⟩
set_option maxRecDepth 100000 in
set_option maxHeartbeats 3200000 in
theorem act_read (gw ug uc tg tc vg vc p : Nat) (t : ByteArray) (ver : Int) (w : World) (h1 : w.cell? ⟨gw, 1, none⟩ = some (.slice (some ⟨ug, 0, none⟩) 64 uc)) (h2 : w.cell? ⟨ug, p, none⟩ = some (.bool true)) (hp : p < 64)
    (h3 : w.cell? ⟨gw, 0, none⟩ = some (.slice (some ⟨tg, 0, none⟩) 64 tc)) (h4 : w.cell? ⟨tg, p, none⟩ = some (.string t)) (h5 : w.cell? ⟨gw, 2, none⟩ = some (.slice (some ⟨vg, 0, none⟩) 64 vc)) (h6 : w.cell? ⟨vg, p, none⟩ = some (.int .i64 ver)) :
    Calls Tryz.prog 44 #[.pointer (some ⟨gw, 0, none⟩), .agg #[.int .i64 1, .int .i64 p, .int .i64 0, .string ⟨#[]⟩]] w fun e w' => e = .returned (.agg #[.int .i64 ver, .int .i64 0, .string t, .bool false]) ∧ Below w.heap.size w w' := by
  have A0 := hideIt (((M.start w).alloc #[.int .i64 1, .int .i64 p, .int .i64 0, .string ⟨#[]⟩] 94).alloc #[.int .i64 0, .int .i64 0, .string ⟨#[]⟩, .bool false] 99)
  rw [alloc_size] at A0
  have k1 := cell_below A0.out.bl _ _ h1
  have k2 := cell_below A0.out.bl _ _ h2
  have k3 := cell_below A0.out.bl _ _ h3
  have k4 := cell_below A0.out.bl _ _ h4
  have k5 := cell_below A0.out.bl _ _ h5
  have k6 := cell_below A0.out.bl _ _ h6
  have K1 := hideIt k1
  have K2 := hideIt k2
  have hp1 : (0 : Int) ≤ (p : Int) := by omega
  have hp2 : (p : Int) < 64 := by omega
  clear h1 h2 h3 h4 h5 h6
  go_enter Tryz.func44, Tryz.ntmps44
  go_wp2_with fail
  refine (there_yes gw ug uc p _ K1.out K2.out hp).mono ?_
  rintro e w' ⟨rfl, rfl⟩
  go_wp2
  go_region
  all_goals
    go_wp2
    refine bodyPost_ret (v := .agg #[.int .i64 ver, .int .i64 0, .string t, .bool false]) (by simp [results, Tryz.results44, go_sem, *]) rfl ⟨rfl, ?_⟩
    refine Below.drew ?_
    exact ((Below.refl _ _).alloc (Nat.le_refl _) _).alloc (by simp) _
set_option maxRecDepth 100000 in
set_option maxHeartbeats 3200000 in
theorem learns_read (gd kg kc p : Nat) (t : ByteArray) (ver : Int) (w0 w : World) (B i j : Nat) (l : List As) (c : Array Value) (xs : List Value) (h : M w0 B w l) (hi : l[i]? = some (.blk gd c 48)) (hc : c[5]? = some (.slice (some ⟨kg, 0, none⟩) 64 kc))
    (hj : l[j]? = some (.row 3 1 (.slice (some ⟨kg, 0, none⟩) 64 kc) 64 xs)) (hp : p < 64) :
    Calls Tryz.prog 45 #[.pointer (some ⟨gd, 0, none⟩), .agg #[.int .i64 1, .int .i64 p, .int .i64 0, .string ⟨#[]⟩], .agg #[.int .i64 ver, .int .i64 0, .string t, .bool false]] w fun e w' => (∃ u, e = .returned u) ∧ M w0 B w' (l.set j (.row 3 1 (.slice (some ⟨kg, 0, none⟩) 64 kc) 64 (xs.set p (.int .i64 ver)))) := by
  have A0 := (h.alloc #[.int .i64 1, .int .i64 p, .int .i64 0, .string ⟨#[]⟩] 94).alloc #[.int .i64 ver, .int .i64 0, .string t, .bool false] 99
  have q5 := A0.cell (i := i + 2) (by simpa using hi) 5 _ hc
  have hrow := A0.get (i := j + 2) (by simpa using hj)
  obtain ⟨x, hx⟩ : ∃ x, xs[p]? = some x := by
    have := hrow.1
    exact ⟨_, List.getElem?_eq_getElem (by simp at this; omega)⟩
  have t1 := World.ownsRow.cellAt hrow p (by omega)
  rw [hx] at t1
  have tf := World.ownsRow.frozenAt hrow p
  have HS : Hid (∀ d, M w0 B ((((w.alloc (.cells #[.int .i64 1, .int .i64 p, .int .i64 0, .string ⟨#[]⟩] 94)).alloc (.cells #[.int .i64 ver, .int .i64 0, .string t, .bool false] 99)).drewN d).setCell ⟨kg, p, none⟩ (.int .i64 ver)) (l.set j (.row 3 1 (.slice (some ⟨kg, 0, none⟩) 64 kc) 64 (xs.set p (.int .i64 ver))))) := fun d =>
    ((((A0.drewN d).storeRow (i := j + 2) (j := p) (by simpa using hj) (.int .i64 ver)).sub (List.sublist_cons_self _ _)).sub (List.sublist_cons_self _ _))
  have hlt := h.lt hi
  have hlt2 : kg < w.heap.size := ((h.get hj).lt rfl).2
  have hp1 : (0 : Int) ≤ (p : Int) := by omega
  have hp2 : (p : Int) < 64 := by omega
  have q5' : w.cell? ⟨gd, 5, none⟩ = some (.slice (some ⟨kg, 0, none⟩) 64 kc) := h.cell hi 5 _ hc
  have t1' : w.cell? ⟨kg, p, none⟩ = some x := by have h2 := World.ownsRow.cellAt (h.get hj) p (by omega); rw [hx] at h2; exact h2
  have tf' : w.frozen? ⟨kg, p, none⟩ = false := World.ownsRow.frozenAt (h.get hj) p
  clear A0 hrow hx h hi hj hc
  go_enter Tryz.func45, Tryz.ntmps45
  go_wp2
  go_quiet (fail)
  go_wp2
  go_region
  all_goals
    go_wp2
    exact bodyPost_end (results_none Tryz.results45 _ _ _) rfl ⟨⟨_, rfl⟩, HS.out _⟩
def rKd (k : Int) : Int := 1 + pickV k 4
def rKey (key : Int) : Int := 1 + pickV key 9999
def rVal (k key v : Int) : Int := if rKd k = 2 then pickV v 10000 else if rKd k = 4 then rKey key + pickV v (9999 - rKey key + 1) else v
theorem right_right (k key v : Int) : opR (rKd k) (rKey key) (rVal k key v) = true := by
  have h1 := pickV_bd k 4 (by omega)
  have h2 := pickV_bd key 9999 (by omega)
  have h3 := pickV_bd v 10000 (by omega)
  have h4 := pickV_bd v (9999 - rKey key + 1) (by unfold rKey; omega)
  simp only [opR, Bool.and_eq_true, Bool.or_eq_true, decide_eq_true_eq]
  refine ⟨by unfold rKey; omega, ?_⟩
  by_cases e2 : rKd k = 2
  · have : rVal k key v = pickV v 10000 := by unfold rVal; rw [if_pos e2]
    rw [this]; omega
  by_cases e4 : rKd k = 4
  · have : rVal k key v = rKey key + pickV v (9999 - rKey key + 1) := by unfold rVal; rw [if_neg e2, if_pos e4]
    rw [this]; omega
  unfold rKd at e2 e4 ⊢
  omega
structure RM (w wr : World) (k key v a b c : Int) : Prop where
  raw : wr.heap[w.heap.size]? = some (.cells #[.int .i64 k, .int .i64 key, .int .i64 v] 36 (0, 0))
  res : wr.heap[w.heap.size + 1]? = some (.cells #[.int .i64 0, .int .i64 0, .int .i64 0] 36 (0, 0))
  new : wr.heap[w.heap.size + 1 + 1]? = some (.cells #[.int .i64 a, .int .i64 b, .int .i64 c] 36 (0, 0))
  bl : Below w.heap.size w wr
theorem RM.mk0 (w : World) (k key v a b c : Int) : RM w (((w.alloc (.cells #[.int .i64 k, .int .i64 key, .int .i64 v] 36)).alloc (.cells #[.int .i64 0, .int .i64 0, .int .i64 0] 36)).alloc (.cells #[.int .i64 a, .int .i64 b, .int .i64 c] 36)) k key v a b c := by
  refine ⟨block_alloc (block_alloc (heap_alloc_new w _) _) _, ?_, ?_, (((Below.refl _ _).alloc (Nat.le_refl _) _).alloc (by simp) _).alloc (by simp; omega) _⟩
  · have := heap_alloc_new (w.alloc (.cells #[.int .i64 k, .int .i64 key, .int .i64 v] 36)) (.cells #[.int .i64 0, .int .i64 0, .int .i64 0] 36)
    rw [alloc_size] at this
    exact block_alloc this _
  · have := heap_alloc_new ((w.alloc (.cells #[.int .i64 k, .int .i64 key, .int .i64 v] 36)).alloc (.cells #[.int .i64 0, .int .i64 0, .int .i64 0] 36)) (.cells #[.int .i64 a, .int .i64 b, .int .i64 c] 36)
    rw [alloc_size, alloc_size] at this
    exact this
theorem RM.drew {w wr : World} {k key v a b c : Int} (h : RM w wr k key v a b c) : RM w wr.drew k key v a b c := ⟨h.raw, h.res, h.new, h.bl.drew⟩
theorem RM.set {w wr : World} {k key v a b c : Int} (h : RM w wr k key v a b c) (d : Int) : RM w (wr.setCell ⟨w.heap.size + 1 + 1, 2, none⟩ (.int .i64 d)) k key v a b d := by
  refine ⟨?_, ?_, ?_, h.bl.setCell (by show w.heap.size ≤ w.heap.size + 1 + 1; omega) _⟩
  · rw [Below.heap_setCell _ _ _ _ (by show w.heap.size ≠ w.heap.size + 1 + 1; omega)]; exact h.raw
  · rw [Below.heap_setCell _ _ _ _ (by show w.heap.size + 1 ≠ w.heap.size + 1 + 1; omega)]; exact h.res
  · rw [Go.Joins.block_setCell h.new]; rfl
def PickOk (c n : Int) : Prop := I64 c ∧ 1 ≤ n ∧ n ≤ 10000
theorem pick_ok (c n : Int) (w : World) (h : PickOk c n) : Calls Tryz.prog 26 #[.int .i64 c, .int .i64 n] w fun e w' => e = .returned (.int .i64 (pickV c n)) ∧ w' = w := pick_exact c n w h.1.1 h.1.2 h.2.1 h.2.2
set_option maxRecDepth 100000 in
set_option maxHeartbeats 3200000 in
theorem right_make (k key v : Int) (w : World) (hk : I64 k) (hkey : I64 key) (hv : I64 v) :
    Calls Tryz.prog 9 #[.agg #[.int .i64 k, .int .i64 key, .int .i64 v]] w fun e w' => e = .returned (.agg #[.int .i64 (rKd k), .int .i64 (rKey key), .int .i64 (rVal k key v)]) ∧ Below w.heap.size w w' := by
  obtain ⟨hp1, hp3⟩ := pickV_bd k 4 (by omega)
  obtain ⟨hp2, hp4⟩ := pickV_bd key 9999 (by omega)
  have P1 : PickOk k 4 := ⟨hk, by omega, by omega⟩
  have P2 : PickOk key 9999 := ⟨hkey, by omega, by omega⟩
  have P3 : PickOk v 10000 := ⟨hv, by omega, by omega⟩
  have hK : rKd k = 1 ∨ rKd k = 2 ∨ rKd k = 3 ∨ rKd k = 4 := by unfold rKd; omega
  have hy1 : 1 ≤ rKey key := by unfold rKey; omega
  have hy2 : rKey key ≤ 9999 := by unfold rKey; omega
  have HV : Hid (rVal k key v = if rKd k = 2 then pickV v 10000 else if rKd k = 4 then rKey key + pickV v (9999 - rKey key + 1) else v) := rfl
  have HK1 : Hid (1 + pickV k 4 = rKd k) := rfl
  have HY1 : Hid (1 + pickV key 9999 = rKey key) := rfl
  obtain ⟨rv, hrv⟩ : ∃ x, rVal k key v = x := ⟨_, rfl⟩
  obtain ⟨rk, hrk⟩ : ∃ x, rKd k = x := ⟨_, rfl⟩
  obtain ⟨ry, hry⟩ : ∃ x, rKey key = x := ⟨_, rfl⟩
  rw [hrk] at HV HK1 hK ⊢
  rw [hry] at HV HY1 hy1 hy2 ⊢
  rw [hrv] at HV ⊢
  have P4 : PickOk v (9999 - ry + 1) := ⟨hv, by omega, by omega⟩
  obtain ⟨P5, P6⟩ := pickV_bd v (9999 - ry + 1) (by omega)
  have e1 : IntKind.i64.wrap (IntKind.i64.wrap (9999 - ry) + 1) = 9999 - ry + 1 := by rw [Go.IntWalk.i64_in (9999 - ry) (by omega), Go.IntWalk.i64_in _ (by omega)]
  have P4' : PickOk v (IntKind.i64.wrap (IntKind.i64.wrap (9999 - ry) + 1)) := by rw [e1]; exact P4
  have HE : Hid (IntKind.i64.wrap (ry + pickV v (IntKind.i64.wrap (IntKind.i64.wrap (9999 - ry) + 1))) = ry + pickV v (9999 - ry + 1)) := by unfold Hid; rw [e1, Go.IntWalk.i64_in _ (by omega)]
  have HE1 : Hid (IntKind.i64.wrap (1 + pickV k 4) = rk) := by rw [← HK1.out]; exact Go.IntWalk.i64_in _ (by omega)
  have HE2 : Hid (IntKind.i64.wrap (1 + pickV key 9999) = ry) := by rw [← HY1.out]; exact Go.IntWalk.i64_in _ (by omega)
  clear hrv hrk hry hk hkey hv e1
  have HKK := hideIt hK
  clear hK
  go_enter Tryz.func9, Tryz.ntmps9
  go_upto_region 1 with fail
  go_cut [3] (fun t wr => t = .pointer (some ⟨w.heap.size + 1 + 1, 0, none⟩) ∧ Hid (RM w wr k key v rk ry v))
  case first =>
    go_region_held3 (fun W => W.cell? ⟨w.heap.size, 0, none⟩ = some (.int .i64 k) ∧ W.cell? ⟨w.heap.size, 1, none⟩ = some (.int .i64 key) ∧ W.cell? ⟨w.heap.size, 2, none⟩ = some (.int .i64 v)) (go_keep) ((go_at_call 26; refine (pick_ok _ _ _ (by assumption)).mono ?_; rintro e w' ⟨rfl, rfl⟩))
    all_goals
      go_wp2
      go_meet
      case rel =>
        refine ⟨rfl, ?_⟩
        rw [HE1.out, HE2.out]
        exact (RM.mk0 w k key v rk ry v).drew
  case rest =>
    obtain ⟨rfl, hR⟩ := hcut
    have p0 := cellOf hR.out.raw 0 _ rfl
    have p1 := cellOf hR.out.raw 1 _ rfl
    have p2 := cellOf hR.out.raw 2 _ rfl
    have q0 := cellOf hR.out.new 0 _ rfl
    have q1 := cellOf hR.out.new 1 _ rfl
    have q2 := cellOf hR.out.new 2 _ rfl
    have g2 := Go.Joins.unfrozen_of_block hR.out.new 2
    have r0 := cellOf hR.out.res 0 _ rfl
    have r1 := cellOf hR.out.res 1 _ rfl
    have r2 := cellOf hR.out.res 2 _ rfl
    have f0 := Go.Joins.unfrozen_of_block hR.out.res 0
    have f1 := Go.Joins.unfrozen_of_block hR.out.res 1
    have f2 := Go.Joins.unfrozen_of_block hR.out.res 2
    rcases HKK.out with rfl | rfl | rfl | rfl
    · rw [if_neg (by omega), if_neg (by omega)] at HV
      go_wp2
      refine bodyPost_ret (v := .agg #[.int .i64 1, .int .i64 ry, .int .i64 v]) (by simp [results, Tryz.results9, go_sem, *]) rfl ⟨by rw [HV.out], ?_⟩
      repeat (refine Below.setCell ?_ (by simp) _)
      exact hR.out.bl
    · rw [if_pos rfl] at HV
      go_wp2_with fail
      refine (pick_ok _ _ _ P3).mono ?_
      rintro e w' ⟨rfl, rfl⟩
      rw [← HV.out]
      go_wp2
      refine bodyPost_ret (v := .agg #[.int .i64 2, .int .i64 ry, .int .i64 rv]) (by simp [results, Tryz.results9, go_sem, *]) rfl ⟨rfl, ?_⟩
      repeat (refine Below.setCell ?_ (by simp <;> omega) _)
      exact hR.out.bl
    · rw [if_neg (by omega), if_neg (by omega)] at HV
      go_wp2
      refine bodyPost_ret (v := .agg #[.int .i64 3, .int .i64 ry, .int .i64 v]) (by simp [results, Tryz.results9, go_sem, *]) rfl ⟨by rw [HV.out], ?_⟩
      repeat (refine Below.setCell ?_ (by simp) _)
      exact hR.out.bl
    · rw [if_neg (by omega), if_pos rfl] at HV
      go_upto_region 6 with fail
      go_region_held3 (fun W => W.cell? ⟨w.heap.size + 1 + 1, 1, none⟩ = some (.int .i64 ry) ∧ W.cell? ⟨w.heap.size, 2, none⟩ = some (.int .i64 v)) (first | exact ⟨q1, p2⟩ | exact ⟨(cell_set_off _ _ _ _ _ (by omega)).trans q1, (cell_set_blk _ _ _ _ _ _ (by omega)).trans p2⟩) ((go_at_call 26; refine (pick_ok _ _ _ (by assumption)).mono ?_; rintro e w' ⟨rfl, rfl⟩))
      all_goals
        go_wp2
        refine bodyPost_ret (v := .agg #[.int .i64 4, .int .i64 ry, .int .i64 (ry + pickV v (9999 - ry + 1))]) (by simp [results, Tryz.results9, go_sem, *]) rfl ⟨by rw [HV.out], ?_⟩
        refine Below.drew ?_
        repeat (refine Below.setCell ?_ (by simp <;> omega) _)
        exact hR.out.bl
end Go.Proofs.YtajobgmnmbnhiaaGreatDoor.Sap
