/- WHAT IS PROVED HERE: tree's reader gives back a list of numbers where it stands in a frame. Conditions: the numbers are 0 to 10^17, the list has at most 64, the frame no more than a million bytes. -/
import Derived.Test.YtajobgmnmbnhiaaDoorT4
import Derived.Test.YtajobgmnmbnhiaaDoorR2
namespace Go.Proofs.YtajobgmnmbnhiaaDoor.Sap
open Go.RowKit

theorem RdR.app {w w1 : World} {g : Nat} {s : ByteArray} {a : Nat} {o : Obj} {row : Option Nat} (h : RdR w g s a) (k : (w.alloc o).grownBy w1 row) (hr : row ≠ some g) : RdR w1 g s a := by
  have hl := lt_of_block h
  unfold RdR at h ⊢
  rw [k.block g (by simp; omega) (fun e => hr e.symm)]
  exact block_alloc h o

set_option maxRecDepth 100000 in
set_option maxHeartbeats 1600000 in
theorem rlist_any (g : Nat) (s : ByteArray) (a : Nat) (xs : List Int) (rest : List UInt8) (w : World) (hg : RdR w g s a) (hs : s.data.toList.drop a = lst xs ++ rest) (hl : xs.length ≤ 64) (hx : ∀ x ∈ xs, Fr x) (hsz : s.size ≤ 1000000) :
    Calls Tryd.prog 73 #[.pointer (some ⟨g, 0, none⟩)] w fun e w' => ∃ v, e = .returned v ∧ w'.ownsRow w.heap.size 3 1 v xs.length (ints xs) ∧ RdR w' g s (a + (lst xs).length) ∧ w.grownBy w' (some g) := by
  obtain ⟨i0, hi0, hz0, hz1, hz2⟩ := info_parts infoInt
  obtain ⟨m, hm⟩ : ∃ m, xs.length = m := ⟨_, rfl⟩
  have HM := hideIt hm
  have HS := hideIt hs
  have HX := hideIt hx
  have HG := hideIt hg
  have hgl := lt_of_block hg
  rw [hm] at hl ⊢
  clear hm hs hx hg
  go_enter Tryd.func73, Tryd.ntmps73
  go_wp2_with fail
  refine (rnum_any g s a m (nbs xs ++ rest) w HG.out (by have := HS.out; unfold lst at this; rw [HM.out, List.append_assoc] at this; exact this) (by omega) hsz).mono ?_
  rintro e w1 ⟨rfl, hR1, hg1⟩
  have R1 := hideIt hR1
  have G1 := hideIt hg1
  clear hR1 hg1
  go_wp2
  go_loopw [4, 5] (fun o i wr => ∃ k : Nat, k ≤ m ∧ i = .int .i64 k ∧ Hid (wr.ownsRow w.heap.size 3 1 o k (ints (xs.take k))) ∧ Hid (RdR wr g s (a + (nb m).length + (nbs (xs.take k)).length)) ∧ Hid (w.grownBy wr (some g))) (fun _ i _ => m - (intOf i).toNat)
  case atStart => exact ⟨0, Nat.zero_le _, rfl, World.ownsRow_nil _ _ _ _, by simpa [nbs, Hid] using R1.out, G1.out⟩
  case round =>
    obtain ⟨k, hk, rfl, hO, hR, hgr⟩ := hrel
    obtain ⟨ao, cap, rfl⟩ := own_form hO.out
    obtain ⟨⟨c0, c1, c2⟩, -⟩ := hR.out.cells
    by_cases hlt : k < m
    · have hkk : (k : Int) < (m : Int) := by omega
      obtain ⟨x, hxk⟩ : ∃ x, xs[k]?.getD 0 = x := ⟨_, rfl⟩
      have hfx : Fr x := by rw [← hxk]; exact HX.out _ (mem_at (by rw [HM.out]; exact hlt))
      obtain ⟨y, rfl⟩ : ∃ y : Nat, x = (y : Int) := ⟨x.toNat, by have := hfx.1; omega⟩
      have hy : y ≤ 100000000000000000 := by have := hfx.2; omega
      have HT : Hid (ints (xs.take (k + 1)) = ints (xs.take k) ++ [.int .i64 y] ∧ nbs (xs.take (k + 1)) = nbs (xs.take k) ++ nb y) := by
        refine ⟨?_, by rw [nbs_snoc xs k (by rw [HM.out]; exact hlt), hxk]⟩
        rw [← ints_snoc, List.take_add_one, ← hxk, List.getElem?_eq_getElem (by rw [HM.out]; exact hlt)]; rfl
      have HD : Hid (∃ r2, s.data.toList.drop (a + (nb m).length + (nbs (xs.take k)).length) = nb y ++ r2) := by
        have h1 := HS.out
        have h2 : lst xs ++ rest = (nb m ++ nbs (xs.take k)) ++ (nb y ++ (nbs (xs.drop (k + 1)) ++ rest)) := by
          have e : nbs xs = nbs (xs.take (k + 1)) ++ nbs (xs.drop (k + 1)) := by
            unfold nbs
            rw [← List.flatten_append, ← List.map_append, List.take_append_drop]
          unfold lst
          rw [HM.out, e, HT.out.2]
          simp [List.append_assoc]
        rw [h2] at h1
        have h3 := congrArg (List.drop (nb m ++ nbs (xs.take k)).length) h1
        rw [List.drop_drop, List.drop_left] at h3
        refine ⟨nbs (xs.drop (k + 1)) ++ rest, ?_⟩
        rw [List.length_append] at h3
        rw [Nat.add_assoc]
        exact h3
      clear hxk hfx
      have hwr := hgr.out.size
      go_wp2_with fail
      obtain ⟨r2, hr2⟩ := HD.out
      refine (rnum_any g s _ y r2 wr hR.out hr2 hy hsz).mono ?_
      rintro e w2 ⟨rfl, hR2, hg2⟩
      have R2 := hideIt hR2
      have G2 := hideIt (hgr.out.trans hg2)
      have O2 := hideIt (owns_gr hO.out hg2 hgl)
      have hw2 := G2.out.size
      clear hR2 hg2 c0 c1 c2 hr2
      go_wp2_with (at_builtin; refine wpList_append_own_at _ rfl _ _ 22 rfl w.heap.size 3 i0 (.int .i64 0) 1 8 Tryd.underlying22 hi0 hz0 hz1 hz2 rfl (by decide) _ k (ints (xs.take k)) rfl (O2.out.alloc _) ⟨w2.heap.size, 0, none⟩ 1 1 [.int .i64 y] rfl rfl (news_one _ _ _) (by simp [Value.oneCell']) (by unfold maxLen; omega) (by omega) (by simp; omega) ?_; intro v1 w3 hown hgrow _ _; obtain ⟨ao1, cp1, rfl⟩ := own_form hown; rw [← HT.out.1] at hown; have O3 := hideIt hown; have G3 := hideIt (gr_app G2.out hgrow (fun j hj => (O2.out.lt j hj).1)); have R3 := hideIt (R2.out.app hgrow (fun e => by have := (O2.out.lt g e).1; omega)); clear hown hgrow)
      go_roundw
      case rel => exact ⟨k + 1, by omega, by go_num, O3.out, by unfold Hid; rw [HT.out.2, List.length_append, ← Nat.add_assoc]; exact R3.out, G3.out⟩
      case measure => simp [intOf]; omega
    · obtain rfl : k = m := by omega
      go_wp2
      go_ret
      refine ⟨_, rfl, ?_, ?_, hgr.out⟩
      · have := hO.out
        rw [← HM.out, List.take_length] at this
        rw [← HM.out]; exact this
      · have := hR.out
        rw [← HM.out, List.take_length] at this
        unfold lst
        rw [List.length_append, ← Nat.add_assoc]; exact this

theorem rest_eq (s t : ByteArray) (a : Nat) (h : s.data.toList.drop a = t.data.toList) : s.extract a s.size = t := by
  refine ba_ext ?_
  rw [ba_extract, ← h]
  unfold seg
  rw [List.take_of_length_le]
  rw [List.length_drop, ba_size]
  omega

set_option maxRecDepth 100000 in
set_option maxHeartbeats 1600000 in
theorem rrest_any (g : Nat) (s : ByteArray) (a : Nat) (t : ByteArray) (w : World) (hg : RdR w g s a) (hs : s.data.toList.drop a = nb (t.size : Int) ++ t.data.toList) (ht : t.size ≤ 1000) (hsz : s.size ≤ 1000000) :
    Calls Tryd.prog 74 #[.pointer (some ⟨g, 0, none⟩)] w fun e w' => e = .returned (.string t) ∧ RdR w' g s (a + (nb (t.size : Int)).length) ∧ w.grownBy w' (some g) := by
  have C := hideIt (rnum_any g s a t.size t.data.toList w hg hs (by omega) hsz)
  have hd : s.data.toList.drop (a + (nb (t.size : Int)).length) = t.data.toList := by rw [← List.drop_drop, hs, List.drop_left]
  have hl : s.size = a + (nb (t.size : Int)).length + t.size ∨ (t.size = 0 ∧ s.size ≤ a + (nb (t.size : Int)).length) := by
    have h1 := congrArg List.length hd
    rw [List.length_drop, ba_size, ba_size] at h1
    omega
  have hl2 : a + (nb (t.size : Int)).length ≤ s.size := by
    have h1 := congrArg List.length hs
    rw [List.length_drop, List.length_append, ba_size, ba_size] at h1
    have h2 : 0 < (nb (t.size : Int)).length := by simp [nb]
    omega
  obtain ⟨b, hb⟩ : ∃ b, a + (nb (t.size : Int)).length = b := ⟨_, rfl⟩
  rw [hb] at C hd hl hl2 ⊢
  have hsb : s.size = b + t.size := by omega
  have HE := hideIt (rest_eq s t b hd)
  have hz : (t.size : Int) = (s.size : Int) - (b : Int) := by omega
  have hzb : ((t.size : Int) != (s.size : Int) - (b : Int)) = false := by simp [hz]
  have hl3 : (b : Int) ≤ (s.size : Int) := by omega
  have hl4 : (0 : Int) ≤ (b : Int) := by omega
  clear hs hg hd hl hb hz hsb
  go_enter Tryd.func74, Tryd.ntmps74
  go_wp2_with fail
  refine C.out.mono ?_
  rintro e w1 ⟨rfl, hR, hb⟩
  have HR := hideIt hR
  have HB := hideIt hb
  obtain ⟨⟨c0, c1, c2⟩, -⟩ := hR.cells
  clear hR hb C
  go_wp2
  go_quiet (fail)
  go_wp2
  go_quiet (fail)
  go_wp2
  go_ret
  have h1 := HB.out
  exact ⟨congrArg (fun z => Ending.returned (Value.string z)) HE.out, HR.out, ⟨h1.os, h1.tape, h1.output, h1.size, h1.block⟩⟩
end Go.Proofs.YtajobgmnmbnhiaaDoor.Sap
