/- WHAT IS PROVED HERE: page.Unpack answers the node of which a text is the text, in new lists of its own, and ErrText if there is none. Conditions: the text is no longer than memory bears. -/
import Derived.Test.YtajobgmnmbnhiaaDoorXMemW10
import Derived.Test.YtajobgmnmbnhiaaDoorXS0F0
namespace Go.Proofs.YtajobgmnmbnhiaaDoor.Sap
open Go.RowKit

/-- What Unpack answers in a world: a node's five parts and an error number; B: the blocks of its own begin there. -/
def UnpR (s : List UInt8) (w' : World) (B : Nat) (e : Ending) : Prop :=
  (∃ n kv vv, Unp s n ∧ Own w' B kv vv n.ks n.vs ∧ e = .returned (.tuple #[.agg #[.int .i64 n.lv, .int .i64 n.lk, .int .i64 n.hi, kv, vv], .int .i64 0]))
  ∨ ((∀ n, ¬ Unp s n) ∧ e = .returned (.tuple #[.agg #[.int .i64 0, .int .i64 0, .int .i64 0, .slice none 0 0, .slice none 0 0], .int .i64 2]))

theorem no_long {s : List UInt8} (h : 47 < s.length) : ∀ n, ¬ Unp s n := fun n hn => by
  have := (len_packT n hn.1).2; rw [hn.2] at this; omega
theorem no_head {s : List UInt8} (h : headOk s = false) : ∀ n, ¬ Unp s n := fun n hn => by
  rw [(head_of hn).1] at h; cases h
theorem no_ents {s : List UInt8} (h : ¬ entOk (hLv s) s) : ∀ n, ¬ Unp s n := fun n hn => by
  obtain ⟨-, a, -⟩ := head_of hn
  obtain ⟨e1, e2, -⟩ := ents_of hn
  rw [a] at h
  exact h ⟨_, e1, e2⟩
theorem no_right {s : List UInt8} {j : Nat} (h1 : 7 + j * wd (hLv s) = s.length) (hr : rightB ⟨hLv s, hLk s, hHi s, kL (hLv s) s j, vL (hLv s) s j⟩ = false) : ∀ n, ¬ Unp s n := fun n hn => by
  obtain ⟨-, a1, a2, a3, -⟩ := head_of hn
  obtain ⟨e1, -, e2, e3⟩ := ents_of hn
  have hj : j = n.ks.length := by
    rw [a1] at h1
    have := (wd_pos n.lv).1
    exact Nat.eq_of_mul_eq_mul_right (by omega : 0 < wd n.lv) (by omega)
  subst hj
  rw [a1, a2, a3, e2, e3] at hr
  have := hn.1
  rw [hr] at this
  cases this

set_option maxRecDepth 100000 in
set_option maxHeartbeats 1600000 in
theorem unpack_any (s : ByteArray) (w : World) (hmax : s.size ≤ 140737488351232) :
    Calls Tryd.prog 15 #[.string s] w fun e w' => UnpR s.data.toList w' w.heap.size e ∧ Below w.heap.size w w' := by
  by_cases hl : 47 < s.size
  · have hno := hideIt (no_long (s := s.data.toList) (by rw [ba_size]; exact hl))
    go_enter Tryd.func15, Tryd.ntmps15
    go_wp2
    refine bodyPost_ret (v := .tuple #[.agg #[.int .i64 0, .int .i64 0, .int .i64 0, .slice none 0 0, .slice none 0 0], .int .i64 2]) (by simp [results, Tryd.results15, go_sem]) rfl ⟨Or.inr ⟨hno.out, rfl⟩, ?_⟩
    exact (Below.refl _ _).alloc (Nat.le_refl _) _
  · have hl47 : s.size ≤ 47 := by omega
    clear hl
    go_enter Tryd.func15, Tryd.ntmps15
    go_wp2_with fail
    refine (readHead_any s _ hl47).mono ?_
    rintro e w1 ⟨⟨hok, rfl⟩ | ⟨hok, rfl⟩, hb⟩
    · have HOK := hideIt hok
      have h7 : 7 ≤ s.size := by
        unfold headOk at hok; simp only [Bool.and_eq_true, decide_eq_true_eq] at hok
        have := hok.1; rw [ba_size] at this; exact this
      have hb1 := step ((Below.refl _ _).alloc (Nat.le_refl _) _) hb
      have hres := (hb.block w.heap.size (by simp)).trans (heap_alloc_new w _)
      have hsz := hb.size
      simp at hsz
      clear hok hb
      have hres1 := hideIt hres
      clear hres
      go_wp2_with fail
      refine (readEntries_any (hLv s.data.toList) (hLk s.data.toList) (hHi s.data.toList) _ _ s _ hl47 h7).mono ?_
      rintro e w2 ⟨⟨j, kv, vv, hj1, hj2, rfl, hO⟩ | ⟨hne, rfl⟩, hb⟩
      · have hres2 := hideIt (block_below (block_alloc hres1.out _) hb)
        have hb2 := step (hb1.alloc hb1.size _) hb
        have HO := hideIt hO
        have HJ1 := hideIt hj1
        have HJ2 := hideIt hj2
        obtain ⟨ak, ck, rfl⟩ := own_form hO.1
        obtain ⟨av, cv, rfl⟩ := own_form hO.2.1
        have hsz2 := hb.size
        simp at hsz2
        clear hO hj1 hj2 hb hres1
        have hjl : j ≤ 47 := by
          have h1 := HJ1.out; rw [ba_size] at h1
          have h2 := (wd_pos (hLv s.data.toList)).1
          have h3 : j * 1 ≤ j * wd (hLv s.data.toList) := Nat.mul_le_mul_left _ (by omega)
          omega
        obtain ⟨n, hn⟩ : ∃ n : Nd, n = ⟨hLv s.data.toList, hLk s.data.toList, hHi s.data.toList, kL (hLv s.data.toList) s.data.toList j, vL (hLv s.data.toList) s.data.toList j⟩ := ⟨_, rfl⟩
        have CR := hideIt (right_any n (.slice ak (kL (hLv s.data.toList) s.data.toList j).length ck) (.slice av (vL (hLv s.data.toList) s.data.toList j).length cv) (w2.alloc (.cells #[.int .i64 (hLv s.data.toList), .int .i64 (hLk s.data.toList), .int .i64 (hHi s.data.toList), .slice ak (kL (hLv s.data.toList) s.data.toList j).length ck, .slice av (vL (hLv s.data.toList) s.data.toList j).length cv] 24)) (by rw [hn]; exact HO.out.rdK.alloc _) (by rw [hn]; exact HO.out.rdV.alloc _) (by rw [hn]; simp only [len_kL]; omega) (by rw [hn]; simp only [len_vL]; omega))
        have e1 : n.lv = hLv s.data.toList := by rw [hn]
        have e2 : n.lk = hLk s.data.toList := by rw [hn]
        have e3 : n.hi = hHi s.data.toList := by rw [hn]
        rw [e1, e2, e3] at CR
        have HN := hideIt hn
        clear e1 e2 e3 hn
        go_wp2_with fail
        refine CR.out.mono ?_
        rintro e w3 ⟨rfl, hb⟩
        have hres3 := block_below (block_alloc hres2.out (.cells #[.int .i64 (hLv s.data.toList), .int .i64 (hLk s.data.toList), .int .i64 (hHi s.data.toList), .slice ak (kL (hLv s.data.toList) s.data.toList j).length ck, .slice av (vL (hLv s.data.toList) s.data.toList j).length cv] 24)) hb
        have hn3 := block_below (heap_alloc_new w2 (.cells #[.int .i64 (hLv s.data.toList), .int .i64 (hLk s.data.toList), .int .i64 (hHi s.data.toList), .slice ak (kL (hLv s.data.toList) s.data.toList j).length ck, .slice av (vL (hLv s.data.toList) s.data.toList j).length cv] 24)) hb
        have HO3 := hideIt ((HO.out.below ((Below.refl _ _).alloc (Nat.le_refl _) (.cells #[.int .i64 (hLv s.data.toList), .int .i64 (hLk s.data.toList), .int .i64 (hHi s.data.toList), .slice ak (kL (hLv s.data.toList) s.data.toList j).length ck, .slice av (vL (hLv s.data.toList) s.data.toList j).length cv] 24))).below hb)
        have hb3 := step (hb2.alloc hb2.size _) hb
        obtain ⟨⟨r0, r1, r2, r3, r4⟩, ⟨e0, e1, e2, e3, e4⟩⟩ := node_cells hres3
        obtain ⟨⟨q0, q1, q2, q3, q4⟩, -⟩ := node_cells hn3
        clear hb hres3 hn3 hres2 HO CR hb2
        obtain ⟨rb, hrb⟩ : ∃ rb, rightB n = rb := ⟨_, rfl⟩
        rw [hrb]
        have HRB := hideIt hrb
        clear hrb
        cases rb
        · have hno := hideIt (no_right (j := j) HJ1.out (by rw [← HN.out]; exact HRB.out))
          go_wp2
          refine bodyPost_ret (v := .tuple #[.agg #[.int .i64 0, .int .i64 0, .int .i64 0, .slice none 0 0, .slice none 0 0], .int .i64 2]) (by simp [results, Tryd.results15, go_sem, *]) rfl ⟨Or.inr ⟨hno.out, rfl⟩, ?_⟩
          repeat (refine Below.setCell ?_ (by simp) _)
          exact hb3
        · have hU := hideIt (show Unp s.data.toList n from ⟨HRB.out, by rw [HN.out]; exact back HOK.out HJ1.out HJ2.out (by rw [← HN.out]; exact HRB.out)⟩)
          go_wp2
          refine bodyPost_ret (v := .tuple #[.agg #[.int .i64 (hLv s.data.toList), .int .i64 (hLk s.data.toList), .int .i64 (hHi s.data.toList), .slice ak (kL (hLv s.data.toList) s.data.toList j).length ck, .slice av (vL (hLv s.data.toList) s.data.toList j).length cv], .int .i64 0]) (by simp [results, Tryd.results15, go_sem, *]) rfl ⟨Or.inl ⟨n, .slice ak (kL (hLv s.data.toList) s.data.toList j).length ck, .slice av (vL (hLv s.data.toList) s.data.toList j).length cv, hU.out, ?_, ?_⟩, ?_⟩
          · rw [HN.out]
            refine Own.mono (B := w.heap.size + 1) ?_ (by omega)
            repeat (refine Own.setCell ?_ (by simp) _)
            exact HO3.out.mono (by simp; omega)
          · rw [HN.out]
          · repeat (refine Below.setCell ?_ (by simp) _)
            exact hb3
      · have hno := hideIt (no_ents hne)
        have hb2 := step (hb1.alloc hb1.size _) hb
        have hres2 := block_below (block_alloc hres1.out (.cells #[.int .i64 (hLv s.data.toList), .int .i64 (hLk s.data.toList), .int .i64 (hHi s.data.toList), .slice none 0 0, .slice none 0 0] 24)) hb
        obtain ⟨⟨r0, r1, r2, r3, r4⟩, ⟨e0, e1, e2, e3, e4⟩⟩ := node_cells1 hres2
        clear hne hb hres2 hres1 HOK
        go_wp2
        refine bodyPost_ret (v := .tuple #[.agg #[.int .i64 0, .int .i64 0, .int .i64 0, .slice none 0 0, .slice none 0 0], .int .i64 2]) (by simp [results, Tryd.results15, go_sem, *]) rfl ⟨Or.inr ⟨hno.out, rfl⟩, ?_⟩
        repeat (refine Below.setCell ?_ (by simp) _)
        exact hb2.alloc hb2.size _
    · have hno := hideIt (no_head hok)
      have hb1 := step ((Below.refl _ _).alloc (Nat.le_refl _) _) hb
      have hres := (hb.block w.heap.size (by simp)).trans (heap_alloc_new w _)
      have hsz := hb.size
      simp at hsz
      obtain ⟨⟨r0, r1, r2, r3, r4⟩, ⟨e0, e1, e2, e3, e4⟩⟩ := node_cells1 hres
      clear hok hb hres
      go_wp2
      refine bodyPost_ret (v := .tuple #[.agg #[.int .i64 0, .int .i64 0, .int .i64 0, .slice none 0 0, .slice none 0 0], .int .i64 2]) (by simp [results, Tryd.results15, go_sem, *]) rfl ⟨Or.inr ⟨hno.out, rfl⟩, ?_⟩
      repeat (refine Below.setCell ?_ (by simp) _)
      exact hb1.alloc hb1.size _
end Go.Proofs.YtajobgmnmbnhiaaDoor.Sap

/- WHAT IS PROVED HERE: how the small account of memory stands behind a store of five cells. Conditions: none. -/
namespace Go.Proofs.YtajobgmnmbnhiaaDoor.Sap
open Go.RowKit

theorem M.store5 {w0 w : World} {B i b : Nat} {l : List As} {c0 c1 c2 c3 c4 : Value} {t : TypeId} (h : M w0 B w l) (hi : l[i]? = some (.blk b #[c0, c1, c2, c3, c4] t)) (a0 a1 a2 a3 a4 : Value) :
    M w0 B (((((w.setCell ⟨b, 0, none⟩ a0).setCell ⟨b, 1, none⟩ a1).setCell ⟨b, 2, none⟩ a2).setCell ⟨b, 3, none⟩ a3).setCell ⟨b, 4, none⟩ a4) (l.set i (.blk b #[a0, a1, a2, a3, a4] t)) := by
  have hl : i < l.length := (List.getElem?_eq_some_iff.1 hi).1
  have e : ∀ (a : As), (l.set i a)[i]? = some a := fun a => by rw [List.getElem?_set, if_pos rfl, if_pos hl]
  have s0 := h.store (j := 0) hi a0 (c' := #[a0, c1, c2, c3, c4]) rfl
  have s1 := s0.store (j := 1) (e _) a1 (c' := #[a0, a1, c2, c3, c4]) rfl
  rw [List.set_set] at s1
  have s2 := s1.store (j := 2) (e _) a2 (c' := #[a0, a1, a2, c3, c4]) rfl
  rw [List.set_set] at s2
  have s3 := s2.store (j := 3) (e _) a3 (c' := #[a0, a1, a2, a3, c4]) rfl
  rw [List.set_set] at s3
  have s4 := s3.store (j := 4) (e _) a4 (c' := #[a0, a1, a2, a3, a4]) rfl
  rw [List.set_set] at s4
  exact s4
end Go.Proofs.YtajobgmnmbnhiaaDoor.Sap
