/- WHAT IS PROVED HERE: page.Unpack answers the node of which a text is the text, in new lists of its own, and ErrText if there is none. Conditions: the text is no longer than memory bears. -/
import Derived.Test.YtajobgmnmbnhiaaDoorPt09
namespace Go.Proofs.YtajobgmnmbnhiaaDoor.Sap
open Go.RowKit
def UnpR (s : List UInt8) (w' : World) (B : Nat) (e : Ending) : Prop :=
  (∃ n kv vv, Unp s n ∧ Own w' B kv vv n.ks n.vs ∧ e = .returned (.tuple #[.agg #[.int .i64 n.lv, .int .i64 n.lk, .int .i64 n.hi, kv, vv], .int .i64 0]))
  ∨ ((∀ n, ¬ Unp s n) ∧ e = .returned (.tuple #[.agg #[.int .i64 0, .int .i64 0, .int .i64 0, .slice none 0 0, .slice none 0 0], .int .i64 2]))
theorem no_long {s : List UInt8} (h : 47 < s.length) : ∀ n, ¬ Unp s n := fun n hn => by
  have := (len_packT n hn.1).2; rw [hn.2] at this; omega
theorem no_head {s : List UInt8} (h : headOk s = false) : ∀ n, ¬ Unp s n := fun n hn => by
  rw [(head_of hn).1] at h; cases h
theorem no_ents {s : List UInt8} (h : ¬ entOk (hLv s) s) : ∀ n, ¬ Unp s n := fun n hn => by
  obtain ⟨-, a, -⟩ := head_of hn
  obtain ⟨e1, e2, -⟩ := ents_of hn
  rw [a] at h
  exact h ⟨_, e1, e2⟩
theorem no_right {s : List UInt8} {j : Nat} (h1 : 7 + j * wd (hLv s) = s.length) (hr : rightB ⟨hLv s, hLk s, hHi s, kL (hLv s) s j, vL (hLv s) s j⟩ = false) : ∀ n, ¬ Unp s n := fun n hn => by
  obtain ⟨-, a1, a2, a3, -⟩ := head_of hn
  obtain ⟨e1, -, e2, e3⟩ := ents_of hn
  have hj : j = n.ks.length := by
    rw [a1] at h1
    have := (wd_pos n.lv).1
    exact Nat.eq_of_mul_eq_mul_right (by omega : 0 < wd n.lv) (by omega)
  subst hj
  rw [a1, a2, a3, e2, e3] at hr
  have := hn.1
  rw [hr] at this
  cases this
set_option maxRecDepth 100000 in
set_option maxHeartbeats 1600000 in
theorem unpack_any (s : ByteArray) (w : World) (hmax : s.size ≤ 140737488351232) :
    Calls Tryd.prog 15 #[.string s] w fun e w' => UnpR s.data.toList w' w.heap.size e ∧ Below w.heap.size w w' := by
  by_cases hl : 47 < s.size
  · have hno := hideIt (no_long (s := s.data.toList) (by rw [ba_size]; exact hl))
    go_enter Tryd.func15, Tryd.ntmps15
    go_wp2
    refine bodyPost_ret (v := .tuple #[.agg #[.int .i64 0, .int .i64 0, .int .i64 0, .slice none 0 0, .slice none 0 0], .int .i64 2]) (by simp [results, Tryd.results15, go_sem]) rfl ⟨Or.inr ⟨hno.out, rfl⟩, ?_⟩
    exact (Below.refl _ _).alloc (Nat.le_refl _) _
  · have hl47 : s.size ≤ 47 := by omega
    clear hl
    go_enter Tryd.func15, Tryd.ntmps15
    go_wp2_with fail
    refine (readHead_any s _ hl47).mono ?_
    rintro e w1 ⟨⟨hok, rfl⟩ | ⟨hok, rfl⟩, hb⟩
    · have HOK := hideIt hok
      have h7 : 7 ≤ s.size := by
        unfold headOk at hok; simp only [Bool.and_eq_true, decide_eq_true_eq] at hok
        have := hok.1; rw [ba_size] at this; exact this
      have hb1 := step ((Below.refl _ _).alloc (Nat.le_refl _) _) hb
      have hres := (hb.block w.heap.size (by simp)).trans (heap_alloc_new w _)
      have hsz := hb.size
      simp at hsz
      clear hok hb
      have hres1 := hideIt hres
      clear hres
      go_wp2_with fail
      refine (readEntries_any (hLv s.data.toList) (hLk s.data.toList) (hHi s.data.toList) _ _ s _ hl47 h7).mono ?_
      rintro e w2 ⟨⟨j, kv, vv, hj1, hj2, rfl, hO⟩ | ⟨hne, rfl⟩, hb⟩
      · have hres2 := hideIt (block_below (block_alloc hres1.out _) hb)
        have hb2 := step (hb1.alloc hb1.size _) hb
        have HO := hideIt hO
        have HJ1 := hideIt hj1
        have HJ2 := hideIt hj2
        obtain ⟨ak, ck, rfl⟩ := own_form hO.1
        obtain ⟨av, cv, rfl⟩ := own_form hO.2.1
        have hsz2 := hb.size
        simp at hsz2
        clear hO hj1 hj2 hb hres1
        have hjl : j ≤ 47 := by
          have h1 := HJ1.out; rw [ba_size] at h1
          have h2 := (wd_pos (hLv s.data.toList)).1
          have h3 : j * 1 ≤ j * wd (hLv s.data.toList) := Nat.mul_le_mul_left _ (by omega)
          omega
        obtain ⟨n, hn⟩ : ∃ n : Nd, n = ⟨hLv s.data.toList, hLk s.data.toList, hHi s.data.toList, kL (hLv s.data.toList) s.data.toList j, vL (hLv s.data.toList) s.data.toList j⟩ := ⟨_, rfl⟩
        have CR := hideIt (right_any n (.slice ak (kL (hLv s.data.toList) s.data.toList j).length ck) (.slice av (vL (hLv s.data.toList) s.data.toList j).length cv) (w2.alloc (.cells #[.int .i64 (hLv s.data.toList), .int .i64 (hLk s.data.toList), .int .i64 (hHi s.data.toList), .slice ak (kL (hLv s.data.toList) s.data.toList j).length ck, .slice av (vL (hLv s.data.toList) s.data.toList j).length cv] 24)) (by rw [hn]; exact HO.out.rdK.alloc _) (by rw [hn]; exact HO.out.rdV.alloc _) (by rw [hn]; simp only [len_kL]; omega) (by rw [hn]; simp only [len_vL]; omega))
        have e1 : n.lv = hLv s.data.toList := by rw [hn]
        have e2 : n.lk = hLk s.data.toList := by rw [hn]
        have e3 : n.hi = hHi s.data.toList := by rw [hn]
        rw [e1, e2, e3] at CR
        have HN := hideIt hn
        clear e1 e2 e3 hn
        go_wp2_with fail
        refine CR.out.mono ?_
        rintro e w3 ⟨rfl, hb⟩
        have hres3 := block_below (block_alloc hres2.out (.cells #[.int .i64 (hLv s.data.toList), .int .i64 (hLk s.data.toList), .int .i64 (hHi s.data.toList), .slice ak (kL (hLv s.data.toList) s.data.toList j).length ck, .slice av (vL (hLv s.data.toList) s.data.toList j).length cv] 24)) hb
        have hn3 := block_below (heap_alloc_new w2 (.cells #[.int .i64 (hLv s.data.toList), .int .i64 (hLk s.data.toList), .int .i64 (hHi s.data.toList), .slice ak (kL (hLv s.data.toList) s.data.toList j).length ck, .slice av (vL (hLv s.data.toList) s.data.toList j).length cv] 24)) hb
        have HO3 := hideIt ((HO.out.below ((Below.refl _ _).alloc (Nat.le_refl _) (.cells #[.int .i64 (hLv s.data.toList), .int .i64 (hLk s.data.toList), .int .i64 (hHi s.data.toList), .slice ak (kL (hLv s.data.toList) s.data.toList j).length ck, .slice av (vL (hLv s.data.toList) s.data.toList j).length cv] 24))).below hb)
        have hb3 := step (hb2.alloc hb2.size _) hb
        obtain ⟨⟨r0, r1, r2, r3, r4⟩, ⟨e0, e1, e2, e3, e4⟩⟩ := node_cells hres3
        obtain ⟨⟨q0, q1, q2, q3, q4⟩, -⟩ := node_cells hn3
        clear hb hres3 hn3 hres2 HO CR hb2
        obtain ⟨rb, hrb⟩ : ∃ rb, rightB n = rb := ⟨_, rfl⟩
        rw [hrb]
        have HRB := hideIt hrb
        clear hrb
        cases rb
        · have hno := hideIt (no_right (j := j) HJ1.out (by rw [← HN.out]; exact HRB.out))
          go_wp2
          refine bodyPost_ret (v := .tuple #[.agg #[.int .i64 0, .int .i64 0, .int .i64 0, .slice none 0 0, .slice none 0 0], .int .i64 2]) (by simp [results, Tryd.results15, go_sem, *]) rfl ⟨Or.inr ⟨hno.out, rfl⟩, ?_⟩
          repeat (refine Below.setCell ?_ (by simp) _)
          exact hb3
        · have hU := hideIt (show Unp s.data.toList n from ⟨HRB.out, by rw [HN.out]; exact back HOK.out HJ1.out HJ2.out (by rw [← HN.out]; exact HRB.out)⟩)
          go_wp2
          refine bodyPost_ret (v := .tuple #[.agg #[.int .i64 (hLv s.data.toList), .int .i64 (hLk s.data.toList), .int .i64 (hHi s.data.toList), .slice ak (kL (hLv s.data.toList) s.data.toList j).length ck, .slice av (vL (hLv s.data.toList) s.data.toList j).length cv], .int .i64 0]) (by simp [results, Tryd.results15, go_sem, *]) rfl ⟨Or.inl ⟨n, .slice ak (kL (hLv s.data.toList) s.data.toList j).length ck, .slice av (vL (hLv s.data.toList) s.data.toList j).length cv, hU.out, ?_, ?_⟩, ?_⟩
          · rw [HN.out]
            refine Own.mono (B := w.heap.size + 1) ?_ (by omega)
            repeat (refine Own.setCell ?_ (by simp) _)
            exact HO3.out.mono (by simp; omega)
          · rw [HN.out]
          · repeat (refine Below.setCell ?_ (by simp) _)
            exact hb3
      · have hno := hideIt (no_ents hne)
        have hb2 := step (hb1.alloc hb1.size _) hb
        have hres2 := block_below (block_alloc hres1.out (.cells #[.int .i64 (hLv s.data.toList), .int .i64 (hLk s.data.toList), .int .i64 (hHi s.data.toList), .slice none 0 0, .slice none 0 0] 24)) hb
        obtain ⟨⟨r0, r1, r2, r3, r4⟩, ⟨e0, e1, e2, e3, e4⟩⟩ := node_cells1 hres2
        clear hne hb hres2 hres1 HOK
        go_wp2
        refine bodyPost_ret (v := .tuple #[.agg #[.int .i64 0, .int .i64 0, .int .i64 0, .slice none 0 0, .slice none 0 0], .int .i64 2]) (by simp [results, Tryd.results15, go_sem, *]) rfl ⟨Or.inr ⟨hno.out, rfl⟩, ?_⟩
        repeat (refine Below.setCell ?_ (by simp) _)
        exact hb2.alloc hb2.size _
    · have hno := hideIt (no_head hok)
      have hb1 := step ((Below.refl _ _).alloc (Nat.le_refl _) _) hb
      have hres := (hb.block w.heap.size (by simp)).trans (heap_alloc_new w _)
      have hsz := hb.size
      simp at hsz
      obtain ⟨⟨r0, r1, r2, r3, r4⟩, ⟨e0, e1, e2, e3, e4⟩⟩ := node_cells1 hres
      clear hok hb hres
      go_wp2
      refine bodyPost_ret (v := .tuple #[.agg #[.int .i64 0, .int .i64 0, .int .i64 0, .slice none 0 0, .slice none 0 0], .int .i64 2]) (by simp [results, Tryd.results15, go_sem, *]) rfl ⟨Or.inr ⟨hno.out, rfl⟩, ?_⟩
      repeat (refine Below.setCell ?_ (by simp) _)
      exact hb1.alloc hb1.size _
def As : Type := (Nat × Array Value × TypeId) ⊕ (TypeId × Nat × Value × Nat × List Value)
def As.blk (b : Nat) (c : Array Value) (t : TypeId) : As := Sum.inl (b, c, t)
def As.row (e : TypeId) (z : Nat) (v : Value) (n : Nat) (xs : List Value) : As := Sum.inr (e, z, v, n, xs)
def As.holds (w : World) (B : Nat) (a : As) : Prop :=
  match (show (Nat × Array Value × TypeId) ⊕ (TypeId × Nat × Value × Nat × List Value) from a) with
  | .inl (b, c, t) => B ≤ b ∧ w.heap[b]? = some (.cells c t (0, 0))
  | .inr (e, z, v, n, xs) => w.ownsRow B e z v n xs
def As.foot (a : As) : Option Nat :=
  match (show (Nat × Array Value × TypeId) ⊕ (TypeId × Nat × Value × Nat × List Value) from a) with
  | .inl (b, _, _) => some b
  | .inr (_, _, v, _, _) => v.ownBlock
theorem As.holds.own {w : World} {B : Nat} {e : TypeId} {z : Nat} {v : Value} {n : Nat} {xs : List Value} (h : As.holds w B (.row e z v n xs)) : w.ownsRow B e z v n xs := h
@[simp] theorem As.foot_blk (b : Nat) (c : Array Value) (t : TypeId) : (As.blk b c t).foot = some b := rfl
@[simp] theorem As.foot_row (e : TypeId) (z : Nat) (v : Value) (n : Nat) (xs : List Value) : (As.row e z v n xs).foot = v.ownBlock := rfl
theorem As.is (a : As) : (∃ b c t, a = .blk b c t) ∨ ∃ e z v n xs, a = .row e z v n xs := by
  rcases a with x | x
  · exact .inl ⟨x.1, x.2.1, x.2.2, rfl⟩
  · exact .inr ⟨x.1, x.2.1, x.2.2.1, x.2.2.2.1, x.2.2.2.2, rfl⟩
def As.apart (a b : As) : Prop := ∀ k, a.foot = some k → b.foot = some k → False
theorem As.apart.symm {a b : As} (h : a.apart b) : b.apart a := fun k h1 h2 => h k h2 h1
structure M (w0 : World) (B : Nat) (w : World) (l : List As) : Prop where
  holds : ∀ a ∈ l, a.holds w B
  apart : l.Pairwise As.apart
  bl : Below B w0 w
  sz : B ≤ w.heap.size
theorem As.holds.lt {w : World} {B : Nat} {a : As} (h : a.holds w B) {k : Nat} (hk : a.foot = some k) : B ≤ k ∧ k < w.heap.size := by
  rcases a.is with ⟨b, c, t, rfl⟩ | ⟨e, z, v, n, xs, rfl⟩
  · simp only [As.foot_blk, Option.some.injEq] at hk; subst hk; exact ⟨h.1, lt_of_block h.2⟩
  · exact World.ownsRow.lt h k hk
theorem As.holds.kept {w w' : World} {B : Nat} {a : As} (h : a.holds w B) (hk : ∀ k, a.foot = some k → w'.heap[k]? = w.heap[k]?) : a.holds w' B := by
  rcases a.is with ⟨b, c, t, rfl⟩ | ⟨e, z, v, n, xs, rfl⟩
  · exact ⟨h.1, (hk b rfl).trans h.2⟩
  · refine ⟨h.own.1, ?_⟩
    rcases h.own.2 with hn | ⟨g, cap, cur, rfl, hg, hgg, rest⟩
    · exact .inl hn
    · exact .inr ⟨g, cap, cur, rfl, hg, (hk g rfl).trans hgg, rest⟩
theorem M.start (w : World) : M w w.heap.size w [] := ⟨fun _ h => (List.not_mem_nil h).elim, List.Pairwise.nil, Below.refl _ _, Nat.le_refl _⟩
theorem M.get {w0 w : World} {B i : Nat} {l : List As} {a : As} (h : M w0 B w l) (hi : l[i]? = some a) : a.holds w B := h.holds a (List.mem_of_getElem? hi)
theorem M.block {w0 w : World} {B i b : Nat} {l : List As} {c : Array Value} {t : TypeId} (h : M w0 B w l) (hi : l[i]? = some (.blk b c t)) : w.heap[b]? = some (.cells c t (0, 0)) := (h.get hi).2
theorem M.below {w0 w w' : World} {B : Nat} {l : List As} (h : M w0 B w l) (hb : Below w.heap.size w w') : M w0 B w' l :=
  ⟨fun a ha => (h.holds a ha).kept fun k hk => hb.block k ((h.holds a ha).lt hk).2, h.apart, h.bl.trans (hb.mono h.sz), Nat.le_trans h.sz hb.size⟩
theorem M.sub {w0 w : World} {B : Nat} {l l' : List As} (h : M w0 B w l) (hs : l'.Sublist l) : M w0 B w l' :=
  ⟨fun a ha => h.holds a (hs.subset ha), h.apart.sublist hs, h.bl, h.sz⟩
theorem M.perm {w0 w : World} {B : Nat} {l l' : List As} (h : M w0 B w l) (hs : l'.Perm l) : M w0 B w l' :=
  ⟨fun a ha => h.holds a (hs.mem_iff.1 ha), (hs.pairwise_iff (fun h => As.apart.symm h)).2 h.apart, h.bl, h.sz⟩
theorem As.holds.mono {w : World} {B B' : Nat} {a : As} (h : a.holds w B) (hb : B' ≤ B) : a.holds w B' := by
  rcases a.is with ⟨b, c, t, rfl⟩ | ⟨e, z, v, n, xs, rfl⟩
  · exact ⟨Nat.le_trans hb h.1, h.2⟩
  · refine ⟨h.own.1, ?_⟩
    rcases h.own.2 with hn | ⟨g, cap, cur, e1, hg, r⟩
    · exact .inl hn
    · exact .inr ⟨g, cap, cur, e1, by omega, r⟩
theorem M.join {w0 w w' : World} {B : Nat} {l l' : List As} (h : M w0 B w l) (k : M w w.heap.size w' l') : M w0 B w' (l' ++ l) := by
  have hm := h.below k.bl
  refine ⟨fun a ha => ?_, ?_, hm.bl, hm.sz⟩
  · rcases List.mem_append.1 ha with ha | ha
    · exact (k.holds a ha).mono h.sz
    · exact hm.holds a ha
  · refine List.pairwise_append.2 ⟨k.apart, h.apart, fun a ha b hb j h1 h2 => ?_⟩
    have e1 := ((k.holds a ha).lt h1).1
    have e2 := ((h.holds b hb).lt h2).2
    omega
theorem M.alloc {w0 w : World} {B : Nat} {l : List As} (h : M w0 B w l) (c : Array Value) (t : TypeId) : M w0 B (w.alloc (.cells c t)) (.blk w.heap.size c t :: l) := by
  have hb : Below w.heap.size w (w.alloc (.cells c t)) := (Below.refl _ _).alloc (Nat.le_refl _) _
  have hm := h.below hb
  refine ⟨fun a ha => ?_, ?_, hm.bl, hm.sz⟩
  · rcases List.mem_cons.1 ha with rfl | ha
    · exact ⟨h.sz, heap_alloc_new w _⟩
    · exact hm.holds a ha
  · refine List.pairwise_cons.2 ⟨fun b hb j h1 h2 => ?_, h.apart⟩
    simp only [As.foot_blk, Option.some.injEq] at h1
    have := ((h.holds b hb).lt h2).2
    omega
theorem M.allocd {w0 w : World} {B : Nat} {l : List As} (h : M w0 B w l) (o : Obj) : M w0 B (w.alloc o) l := h.below ((Below.refl _ _).alloc (Nat.le_refl _) _)
theorem M.drew {w0 w : World} {B : Nat} {l : List As} (h : M w0 B w l) : M w0 B w.drew l := h.below ⟨rfl, rfl, rfl, Nat.le_refl _, fun _ _ => rfl⟩
theorem M.drewN {w0 w : World} {B : Nat} {l : List As} (h : M w0 B w l) (d : Nat) : M w0 B (w.drewN d) l := h.below ⟨rfl, rfl, rfl, Nat.le_refl _, fun _ _ => rfl⟩
theorem M.upd {w0 w w' : World} {B i : Nat} {l : List As} {a a' : As} (h : M w0 B w l) (hi : l[i]? = some a) (hg : w.grownBy w' a.foot) (ha : a'.holds w' B) (hf : a'.foot = a.foot ∨ ∀ k, a'.foot = some k → w.heap.size ≤ k) :
    M w0 B w' (l.set i a') := by
  have hil : i < l.length := (List.getElem?_eq_some_iff.1 hi).1
  have hia : l[i] = a := (List.getElem?_eq_some_iff.1 hi).2
  have key : ∀ b j, l[j]? = some b → j ≠ i → b.holds w' B ∧ ∀ k, a'.foot = some k → b.foot = some k → False := by
    intro b j hj hne
    have hjl : j < l.length := (List.getElem?_eq_some_iff.1 hj).1
    have hjb : l[j] = b := (List.getElem?_eq_some_iff.1 hj).2
    have hap : a.apart b := by
      have hp := List.pairwise_iff_getElem.1 h.apart
      rcases Nat.lt_or_ge i j with hlt | hge
      · have := hp i j hil hjl hlt; rw [hia, hjb] at this; exact this
      · have := hp j i hjl hil (by omega); rw [hia, hjb] at this; exact this.symm
    have hb := h.get hj
    refine ⟨hb.kept fun k hk => ?_, fun k h1 h2 => ?_⟩
    · exact hg.block k (hb.lt hk).2 (fun e => hap k e.symm hk)
    · rcases hf with e | e
      · exact hap k (e ▸ h1) h2
      · have := e k h1; have := (hb.lt h2).2; omega
  refine ⟨fun b hb => ?_, ?_, ?_, Nat.le_trans h.sz hg.size⟩
  · obtain ⟨j, hj⟩ := List.mem_iff_getElem?.1 hb
    rw [List.getElem?_set] at hj
    split at hj
    · cases hj; exact ha
    · rename_i hne; exact (key b j hj (fun e => hne e.symm)).1
  · refine List.pairwise_iff_getElem.2 fun p q hp hq hpq => ?_
    rw [List.length_set] at hp hq
    rw [List.getElem_set, List.getElem_set]
    split
    · rename_i e
      rw [if_neg (by omega)]
      exact (key _ q (List.getElem?_eq_getElem hq) (by omega)).2
    · rename_i e
      split
      · exact fun k h1 h2 => (key _ p (List.getElem?_eq_getElem hp) (by omega)).2 k h2 h1
      · exact List.pairwise_iff_getElem.1 h.apart p q hp hq hpq
  · exact h.bl.grown hg h.sz (fun k hk => ((h.get hi).lt hk).1)
theorem M.store {w0 w : World} {B i b j : Nat} {l : List As} {c c' : Array Value} {t : TypeId} (h : M w0 B w l) (hi : l[i]? = some (.blk b c t)) (u : Value) (hc : c.setIfInBounds j u = c') : M w0 B (w.setCell ⟨b, j, none⟩ u) (l.set i (.blk b c' t)) := by
  have hb := h.get hi
  refine h.upd hi ⟨rfl, rfl, rfl, by simp [World.setCell], fun k _ hk => Below.heap_setCell _ _ _ _ (fun e => hk (by rw [e]; rfl))⟩ ⟨hb.1, ?_⟩ (Or.inl rfl)
  rw [Go.Joins.block_setCell hb.2, hc]
theorem M.storeRow {w0 w : World} {B i g j : Nat} {l : List As} {e : TypeId} {z n cap : Nat} {xs : List Value} (h : M w0 B w l) (hi : l[i]? = some (.row e z (.slice (some ⟨g, 0, none⟩) n cap) n xs)) (u : Value) : M w0 B (w.setCell ⟨g, j, none⟩ u) (l.set i (.row e z (.slice (some ⟨g, 0, none⟩) n cap) n (xs.set j u))) := by
  have hb := h.get hi
  obtain ⟨h1, h2⟩ := World.ownsRow.stored hb j u
  exact h.upd hi h2 h1 (Or.inl rfl)
theorem M.append {w0 w w' : World} {B i : Nat} {l : List As} {e : TypeId} {z n m : Nat} {v v' : Value} {xs ys : List Value} (h : M w0 B w l) (hi : l[i]? = some (.row e z v n xs)) (ho : w'.ownsRow B e z v' m ys) (hg : w.grownBy w' v.ownBlock)
    (hat : v'.ownBlock = v.ownBlock ∨ v'.ownBlock = some w.heap.size) : M w0 B w' (l.set i (.row e z v' m ys)) := by
  refine h.upd hi hg ho ?_
  rcases hat with e1 | e1
  · exact Or.inl e1
  · exact Or.inr fun k hk => by simp only [As.foot_row] at hk; rw [e1] at hk; cases hk; exact Nat.le_refl _
theorem M.cell {w0 w : World} {B i b : Nat} {l : List As} {c : Array Value} {t : TypeId} (h : M w0 B w l) (hi : l[i]? = some (.blk b c t)) (j : Nat) (v : Value) (hv : c[j]? = some v) : w.cell? ⟨b, j, none⟩ = some v := by
  rw [Go.Joins.cell_of_block (h.get hi).2]; exact hv
theorem M.free {w0 w : World} {B i b : Nat} {l : List As} {c : Array Value} {t : TypeId} (h : M w0 B w l) (hi : l[i]? = some (.blk b c t)) (j : Nat) : w.frozen? ⟨b, j, none⟩ = false := Go.Joins.unfrozen_of_block (h.get hi).2 j
theorem M.lt {w0 w : World} {B i b : Nat} {l : List As} {c : Array Value} {t : TypeId} (h : M w0 B w l) (hi : l[i]? = some (.blk b c t)) : b < w.heap.size := lt_of_block (h.get hi).2
theorem As.form {w : World} {B : Nat} {e : TypeId} {z n : Nat} {v : Value} {xs : List Value} (h : As.holds w B (.row e z v n xs)) (hn : 0 < n) : ∃ g cap, v = .slice (some ⟨g, 0, none⟩) n cap := by
  rcases h.own.2 with ⟨-, h0⟩ | ⟨g, cap, cur, rfl, -⟩
  · omega
  · exact ⟨g, cap, rfl⟩
theorem As.form0 {w : World} {B : Nat} {e : TypeId} {z n : Nat} {v : Value} {xs : List Value} (h : As.holds w B (.row e z v n xs)) : ∃ ao cap, v = .slice ao n cap := by
  rcases h.own.2 with ⟨h1, h0⟩ | ⟨g, cap, cur, rfl, -⟩
  · exact ⟨none, 0, by rw [h1, h0]⟩
  · exact ⟨_, cap, rfl⟩
def firstB : ByteArray := ⟨#[48, 45, 45, 45, 45, 45, 45]⟩
theorem first_unp : Unp firstB.data.toList ⟨0, -1, 10000, [], []⟩ := ⟨by decide, by decide⟩
theorem M.store5 {w0 w : World} {B i b : Nat} {l : List As} {c0 c1 c2 c3 c4 : Value} {t : TypeId} (h : M w0 B w l) (hi : l[i]? = some (.blk b #[c0, c1, c2, c3, c4] t)) (a0 a1 a2 a3 a4 : Value) :
    M w0 B (((((w.setCell ⟨b, 0, none⟩ a0).setCell ⟨b, 1, none⟩ a1).setCell ⟨b, 2, none⟩ a2).setCell ⟨b, 3, none⟩ a3).setCell ⟨b, 4, none⟩ a4) (l.set i (.blk b #[a0, a1, a2, a3, a4] t)) := by
  have hl : i < l.length := (List.getElem?_eq_some_iff.1 hi).1
  have e : ∀ (a : As), (l.set i a)[i]? = some a := fun a => by rw [List.getElem?_set, if_pos rfl, if_pos hl]
  have s0 := h.store (j := 0) hi a0 (c' := #[a0, c1, c2, c3, c4]) rfl
  have s1 := s0.store (j := 1) (e _) a1 (c' := #[a0, a1, c2, c3, c4]) rfl
  rw [List.set_set] at s1
  have s2 := s1.store (j := 2) (e _) a2 (c' := #[a0, a1, a2, c3, c4]) rfl
  rw [List.set_set] at s2
  have s3 := s2.store (j := 3) (e _) a3 (c' := #[a0, a1, a2, a3, c4]) rfl
  rw [List.set_set] at s3
  have s4 := s3.store (j := 4) (e _) a4 (c' := #[a0, a1, a2, a3, a4]) rfl
  rw [List.set_set] at s4
  exact s4
end Go.Proofs.YtajobgmnmbnhiaaDoor.Sap
