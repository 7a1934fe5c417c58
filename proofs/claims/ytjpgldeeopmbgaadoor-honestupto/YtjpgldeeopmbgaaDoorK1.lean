/- WHAT IS PROVED HERE: what saplingkeep's table does where an operation takes effect (do): a Put sets or adds, a Drop takes away. Conditions: the lists are as long as one another and short. -/
import Derived.Test.YtjpgldeeopmbgaaDoorC1
import Derived.Test.YtjpgldeeopmbgaaDoorB3
import Derived.Test.YtjpgldeeopmbgaaDoorS2
namespace Go.Proofs.YtjpgldeeopmbgaaDoor.Sap
open Go.RowKit

/-- What an operation does to a map that is kept as two lists. -/
def tdo (kd key v : Int) (K V : List Int) : List Int × List Int :=
  if key ∈ K then
    if kd = 2 then (K, V.set (K.idxOf key) v)
    else if kd = 3 then ((K.set (K.idxOf key) (K[K.length - 1]?.getD 0)).take (K.length - 1), (V.set (K.idxOf key) (V[K.length - 1]?.getD 0)).take (K.length - 1))
    else (K, V)
  else if kd = 2 then (K ++ [key], V ++ [v]) else (K, V)

theorem idx_of_first {K : List Int} {key : Int} : ∀ {i : Nat}, K[i]? = some key → (∀ j, j < i → K[j]?.getD 0 ≠ key) → K.idxOf key = i := by
  induction K with
  | nil => intro i h1 _; simp at h1
  | cons a K ih =>
    intro i h1 h2
    by_cases ha : a = key
    · subst ha
      cases i with
      | zero => simp
      | succ i => exact absurd rfl (h2 0 (by omega))
    · cases i with
      | zero => simp at h1; exact absurd h1 ha
      | succ i =>
        rw [List.idxOf_cons, show (a == key) = false by simp [ha]]
        show K.idxOf key + 1 = i + 1
        rw [ih (i := i) (by simpa using h1) (fun j hj => by have := h2 (j + 1) (by omega); simpa using this)]
theorem ints_set (L : List Int) (i : Nat) (x : Int) : (ints L).set i (.int .i64 x) = ints (L.set i x) := by simp [ints, List.map_set]

set_option maxRecDepth 100000 in
set_option maxHeartbeats 1600000 in
theorem do_set (gt n i : Nat) (kv vv : Value) (K V : List Int) (key v : Int) (fr : List As) (w0 w : World) (B : Nat) (hn : n ≤ 1000000000) (hK : K.length = n) (hV : V.length = n) (h1 : K[i]? = some key) (h2 : ∀ j, j < i → K[j]?.getD 0 ≠ key)
    (h : M w0 B w (.blk gt #[kv, vv] 84 :: .row 3 1 kv n (ints K) :: .row 3 1 vv n (ints V) :: fr)) :
    Calls Tryd.prog 69 #[.pointer (some ⟨gt, 0, none⟩), .agg #[.int .i64 2, .int .i64 key, .int .i64 v]] w fun e w' => (∃ u, e = .returned u) ∧
      M w0 B w' (.blk gt #[kv, vv] 84 :: .row 3 1 kv n (ints K) :: .row 3 1 vv n (ints (V.set i v)) :: fr) := by
  have hi : i < n := by rw [← hK]; exact (List.getElem?_eq_some_iff.1 h1).1
  obtain ⟨gv, cv, rfl⟩ := As.form (h.get (i := 2) rfl) (by omega)
  have hr : As.holds w B (.row 3 1 kv n (ints K)) := h.get (i := 1) rfl
  rw [← hK] at hr
  have HR := hideIt (owns_rd hr)
  have A0 := hideIt (h.alloc #[.int .i64 2, .int .i64 key, .int .i64 v] 37)
  have C := hideIt (find_any gt kv K key (w.alloc (.cells #[.int .i64 2, .int .i64 key, .int .i64 v] 37)) (A0.out.cell (i := 1) rfl 0 kv rfl) (owns_rd (As.holds.own (by have := A0.out.get (i := 2) rfl; rw [← hK] at this; exact this))) (by omega))
  have H1 := hideIt h1
  have H2 := hideIt h2
  have hi0 : (0 : Int) ≤ (i : Int) := by omega
  have hi1 : (i : Int) < (n : Int) := by omega
  clear h hr h1 h2 hK hV
  go_enter Tryd.func69, Tryd.ntmps69
  go_wp2_with fail
  refine C.out.mono ?_
  rintro e w' ⟨r, rfl, hF, rfl⟩
  have hr : r = (i : Int) := by
    rcases hF with ⟨-, hno⟩ | ⟨j, rfl, j1, j2⟩
    · exact absurd (List.mem_of_getElem? H1.out) hno
    · rw [← idx_of_first j1 j2, ← idx_of_first H1.out H2.out]
  subst hr
  clear C hF
  obtain ⟨go, hgo⟩ : ∃ g, w.heap.size = g := ⟨_, rfl⟩
  rw [hgo] at A0 ⊢
  have o0 := A0.out.cell (i := 0) rfl 0 (.int .i64 2) rfl
  have o1 := A0.out.cell (i := 0) rfl 1 (.int .i64 key) rfl
  have o2 := A0.out.cell (i := 0) rfl 2 (.int .i64 v) rfl
  have t1 := A0.out.cell (i := 1) rfl 1 (.slice (some ⟨gv, 0, none⟩) n cv) rfl
  have S := hideIt (A0.out.storeRow (i := 3) (j := i) rfl (.int .i64 v))
  have fz := World.ownsRow.frozenAt (A0.out.get (i := 3) rfl).own i
  have cz := A0.out.rowCell (i := 3) rfl i _ (ints_at' V i (by have := (A0.out.get (i := 3) rfl).own.1; simp [len_ints] at this; omega))
  clear hgo A0
  go_wp2
  go_region
  all_goals
    go_wp2
    refine bodyPost_end (results_none Tryd.results69 _ _ _) rfl ⟨⟨_, rfl⟩, ?_⟩
    rw [← ints_set]
    exact (S.out.sub (List.sublist_cons_self _ _)).drew
set_option maxRecDepth 100000 in
set_option maxHeartbeats 3200000 in
theorem do_add (gt n : Nat) (kv vv : Value) (K V : List Int) (key v : Int) (fr : List As) (w0 w : World) (B : Nat) (hn : n ≤ 1000000000) (hK : K.length = n) (hV : V.length = n) (h1 : key ∉ K)
    (h : M w0 B w (.blk gt #[kv, vv] 84 :: .row 3 1 kv n (ints K) :: .row 3 1 vv n (ints V) :: fr)) :
    Calls Tryd.prog 69 #[.pointer (some ⟨gt, 0, none⟩), .agg #[.int .i64 2, .int .i64 key, .int .i64 v]] w fun e w' => (∃ u, e = .returned u) ∧ ∃ kv' vv',
      M w0 B w' (.blk gt #[kv', vv'] 84 :: .row 3 1 kv' (n + 1) (ints (K ++ [key])) :: .row 3 1 vv' (n + 1) (ints (V ++ [v])) :: fr) := by
  obtain ⟨i0, hi0, hz0, hz1, hz2⟩ := info_parts infoInt
  obtain ⟨ka, ck, rfl⟩ := As.form0 (h.get (i := 1) rfl)
  obtain ⟨va, cv, rfl⟩ := As.form0 (h.get (i := 2) rfl)
  have A0 := hideIt (h.alloc #[.int .i64 2, .int .i64 key, .int .i64 v] 37)
  have C := hideIt (find_any gt (.slice ka n ck) K key (w.alloc (.cells #[.int .i64 2, .int .i64 key, .int .i64 v] 37)) (A0.out.cell (i := 1) rfl 0 (.slice ka n ck) rfl) (owns_rd (As.holds.own (by have := A0.out.get (i := 2) rfl; rw [← hK] at this ⊢; exact this))) (by omega))
  have H1 := hideIt h1
  clear h h1 hK hV
  go_enter Tryd.func69, Tryd.ntmps69
  go_wp2_with fail
  refine C.out.mono ?_
  rintro e w' ⟨r, rfl, hF, rfl⟩
  have hr : r = -1 := by
    rcases hF with ⟨e, -⟩ | ⟨j, rfl, j1, j2⟩
    · exact e
    · exact absurd (List.mem_of_getElem? j1) H1.out
  subst hr
  clear C hF
  obtain ⟨go, hgo⟩ : ∃ g, w.heap.size = g := ⟨_, rfl⟩
  rw [hgo] at A0 ⊢
  obtain ⟨w1, hw1⟩ : ∃ x, w.alloc (.cells #[.int .i64 2, .int .i64 key, .int .i64 v] 37) = x := ⟨_, rfl⟩
  rw [hw1] at A0 ⊢
  clear hw1
  have o0 := A0.out.cell (i := 0) rfl 0 (.int .i64 2) rfl
  have o1 := A0.out.cell (i := 0) rfl 1 (.int .i64 key) rfl
  have t0 := A0.out.cell (i := 1) rfl 0 (.slice ka n ck) rfl
  have f0 := A0.out.free (i := 1) rfl 0
  have hlt := A0.out.lt (i := 1) rfl
  clear hgo
  go_upto_region 5 with fail
  go_cut [] (fun wy => ∃ kv', Hid (M w0 B wy (.blk go #[.int .i64 2, .int .i64 key, .int .i64 v] 37 :: .blk gt #[kv', .slice va n cv] 84 :: .row 3 1 kv' (n + 1) (ints (K ++ [key])) :: .row 3 1 (.slice va n cv) n (ints V) :: fr)))
  case first =>
    go_region_law (refine step_append_lies _ rfl _ _ 22 rfl B 3 i0 (.int .i64 0) 1 8 Tryd.underlying22 hi0 hz0 hz1 hz2 rfl (by decide) _ n (ints K) rfl (World.ownsRow.alloc (A0.out.get (i := 2) rfl) _) ⟨_, 0, none⟩ 1 1 [.int .i64 key] rfl rfl (by have := news_one w1 (.int .i64 key) 3; simpa using this) (by simp [Value.oneCell']) (by omega) (by unfold maxLen; omega) (by omega) (by have := A0.out.sz; simp at this ⊢; omega) _ rfl ?_; intro g1 cap1 w5 hown hgrow hat hlt1; rw [← ints_snoc] at hown; have hm := (A0.out.allocd _).drew.lies (i := 2) rfl hown hgrow hat; clear o0 o1 t0 f0 hlt hown hgrow hat; have t0 := hm.cell (i := 1) rfl 0 (.slice ka n ck) rfl; have f0 := hm.free (i := 1) rfl 0; have hlt := hm.lt (i := 1) rfl; have H2 := hideIt (hm.store (i := 1) (j := 0) rfl (.slice (some ⟨g1, 0, none⟩) (n + 1) cap1) rfl); clear hm)
    all_goals
      go_wp2
      go_meet
      case rel => exact ⟨_, H2.out⟩
  case rest =>
    obtain ⟨kv', hM⟩ := hcut
    clear A0 o0 o1 t0 f0 hlt
    have o2 := hM.out.cell (i := 0) rfl 2 (.int .i64 v) rfl
    have t1 := hM.out.cell (i := 1) rfl 1 (.slice va n cv) rfl
    have f1 := hM.out.free (i := 1) rfl 1
    have hlt := hM.out.lt (i := 1) rfl
    go_upto_region 6 with fail
    go_region_law (refine step_append_lies _ rfl _ _ 22 rfl B 3 i0 (.int .i64 0) 1 8 Tryd.underlying22 hi0 hz0 hz1 hz2 rfl (by decide) _ n (ints V) rfl (World.ownsRow.alloc (hM.out.get (i := 3) rfl) _) ⟨_, 0, none⟩ 1 1 [.int .i64 v] rfl rfl (by have := news_one wc (.int .i64 v) 3; simpa using this) (by simp [Value.oneCell']) (by omega) (by unfold maxLen; omega) (by omega) (by have := hM.out.sz; simp at this ⊢; omega) _ rfl ?_; intro g2 cap2 w6 hown hgrow hat hlt1; rw [← ints_snoc] at hown; have hm := (hM.out.allocd _).drew.lies (i := 3) rfl hown hgrow hat; clear o2 t1 f1 hlt hown hgrow hat; have t1 := hm.cell (i := 1) rfl 1 (.slice va n cv) rfl; have f1 := hm.free (i := 1) rfl 1; have hlt := hm.lt (i := 1) rfl; have H2 := hideIt (hm.store (i := 1) (j := 1) rfl (.slice (some ⟨g2, 0, none⟩) (n + 1) cap2) rfl); clear hm)
    all_goals
      go_wp2
      exact bodyPost_end (results_none Tryd.results69 _ _ _) rfl ⟨⟨_, rfl⟩, _, _, H2.out.sub (List.sublist_cons_self _ _)⟩
theorem M.pop {w0 w : World} {B i g m cap : Nat} {l : List As} {L : List Int} (h : M w0 B w l) (hi : l[i]? = some (.row 3 1 (.slice (some ⟨g, 0, none⟩) (m + 1) cap) (m + 1) (ints L))) (hL : L.length = m + 1) : M w0 B w (l.set i (.row 3 1 (.slice (some ⟨g, 0, none⟩) m cap) m (ints (L.take m)))) := by
  refine h.upd hi ⟨rfl, rfl, rfl, Nat.le_refl _, fun _ _ _ => rfl⟩ ?_ (Or.inl rfl)
  have hr := (h.get hi).own
  have e : ints L = ints (L.take m) ++ ints (L.drop m) := by unfold ints; rw [← List.map_append, List.take_append_drop]
  rw [e] at hr
  exact ownsRow_pop (by rw [len_ints, List.length_take]; omega) hr

set_option maxRecDepth 100000 in
set_option maxHeartbeats 3200000 in
theorem do_drop (gt m i : Nat) (kv vv : Value) (K V : List Int) (key v : Int) (fr : List As) (w0 w : World) (B : Nat) (hn : m < 1000000000) (hK : K.length = m + 1) (hV : V.length = m + 1) (h1 : K[i]? = some key) (h2 : ∀ j, j < i → K[j]?.getD 0 ≠ key)
    (h : M w0 B w (.blk gt #[kv, vv] 84 :: .row 3 1 kv (m + 1) (ints K) :: .row 3 1 vv (m + 1) (ints V) :: fr)) :
    Calls Tryd.prog 69 #[.pointer (some ⟨gt, 0, none⟩), .agg #[.int .i64 3, .int .i64 key, .int .i64 v]] w fun e w' => (∃ u, e = .returned u) ∧ ∃ kv' vv',
      M w0 B w' (.blk gt #[kv', vv'] 84 :: .row 3 1 kv' m (ints ((K.set i (K[m]?.getD 0)).take m)) :: .row 3 1 vv' m (ints ((V.set i (V[m]?.getD 0)).take m)) :: fr) := by
  have hi : i < m + 1 := by rw [← hK]; exact (List.getElem?_eq_some_iff.1 h1).1
  obtain ⟨gk, ck, rfl⟩ := As.form (h.get (i := 1) rfl) (by omega)
  obtain ⟨gv, cv, rfl⟩ := As.form (h.get (i := 2) rfl) (by omega)
  have A0 := hideIt (h.alloc #[.int .i64 3, .int .i64 key, .int .i64 v] 37)
  have C := hideIt (find_any gt (.slice (some ⟨gk, 0, none⟩) (m + 1) ck) K key (w.alloc (.cells #[.int .i64 3, .int .i64 key, .int .i64 v] 37)) (A0.out.cell (i := 1) rfl 0 (.slice (some ⟨gk, 0, none⟩) (m + 1) ck) rfl) (owns_rd (As.holds.own (by have := A0.out.get (i := 2) rfl; rw [← hK] at this ⊢; exact this))) (by omega))
  have H1 := hideIt h1
  have H2 := hideIt h2
  have hi0 : (0 : Int) ≤ (i : Int) := by omega
  have hi1 : (i : Int) < ((m + 1 : Nat) : Int) := by omega
  have hm0 : (0 : Int) ≤ (m : Int) := by omega
  have hm1 : (m : Int) < ((m + 1 : Nat) : Int) := by omega
  have hms : ((m + 1 : Nat) : Int) - 1 = (m : Int) := by omega
  have HK := hideIt hK
  have HV := hideIt hV
  clear h h1 h2 hK hV
  go_enter Tryd.func69, Tryd.ntmps69
  go_wp2_with fail
  refine C.out.mono ?_
  rintro e w' ⟨r, rfl, hF, rfl⟩
  have hr : r = (i : Int) := by
    rcases hF with ⟨-, hno⟩ | ⟨j, rfl, j1, j2⟩
    · exact absurd (List.mem_of_getElem? H1.out) hno
    · rw [← idx_of_first j1 j2, ← idx_of_first H1.out H2.out]
  subst hr
  clear C hF
  obtain ⟨go, hgo⟩ : ∃ g, w.heap.size = g := ⟨_, rfl⟩
  rw [hgo] at A0 ⊢
  obtain ⟨w1, hw1⟩ : ∃ x, w.alloc (.cells #[.int .i64 3, .int .i64 key, .int .i64 v] 37) = x := ⟨_, rfl⟩
  rw [hw1] at A0 ⊢
  clear hw1 hgo
  have o0 := A0.out.cell (i := 0) rfl 0 (.int .i64 3) rfl
  have t0 := A0.out.cell (i := 1) rfl 0 (.slice (some ⟨gk, 0, none⟩) (m + 1) ck) rfl
  have km := A0.out.rowCell (i := 2) rfl m _ (ints_at' K m (by rw [HK.out]; omega))
  have fk := A0.out.rowFree (i := 2) rfl i
  have ki := A0.out.rowCell (i := 2) rfl i _ (ints_at' K i (by rw [HK.out]; omega))
  have S1 := hideIt (A0.out.storeRow (i := 2) (j := i) rfl (.int .i64 (K[m]?.getD 0)))
  go_upto_region 9 with fail
  go_cut [5] (fun u wy => u = .int .i64 (m : Int) ∧ Hid (M w0 B wy (.blk go #[.int .i64 3, .int .i64 key, .int .i64 v] 37 :: .blk gt #[.slice (some ⟨gk, 0, none⟩) (m + 1) ck, .slice (some ⟨gv, 0, none⟩) (m + 1) cv] 84 :: .row 3 1 (.slice (some ⟨gk, 0, none⟩) (m + 1) ck) (m + 1) (ints (K.set i (K[m]?.getD 0))) :: .row 3 1 (.slice (some ⟨gv, 0, none⟩) (m + 1) cv) (m + 1) (ints V) :: fr)))
  case first =>
    go_region
    all_goals
      go_wp2
      go_meet
      case rel => exact ⟨by go_num, by unfold Hid; rw [← ints_set]; exact S1.out.drew⟩
  case rest =>
    obtain ⟨rfl, hM⟩ := hcut
    clear A0 S1 o0 t0 km fk ki
    have t1 := hM.out.cell (i := 1) rfl 1 (.slice (some ⟨gv, 0, none⟩) (m + 1) cv) rfl
    have vm := hM.out.rowCell (i := 3) rfl m _ (ints_at' V m (by rw [HV.out]; omega))
    have fv := hM.out.rowFree (i := 3) rfl i
    have vi := hM.out.rowCell (i := 3) rfl i _ (ints_at' V i (by rw [HV.out]; omega))
    have S2 := hideIt (hM.out.storeRow (i := 3) (j := i) rfl (.int .i64 (V[m]?.getD 0)))
    go_upto_region 10 with fail
    go_cut [5] (fun u wy => u = .int .i64 (m : Int) ∧ Hid (M w0 B wy (.blk go #[.int .i64 3, .int .i64 key, .int .i64 v] 37 :: .blk gt #[.slice (some ⟨gk, 0, none⟩) (m + 1) ck, .slice (some ⟨gv, 0, none⟩) (m + 1) cv] 84 :: .row 3 1 (.slice (some ⟨gk, 0, none⟩) (m + 1) ck) (m + 1) (ints (K.set i (K[m]?.getD 0))) :: .row 3 1 (.slice (some ⟨gv, 0, none⟩) (m + 1) cv) (m + 1) (ints (V.set i (V[m]?.getD 0))) :: fr)))
    case first =>
      go_region
      all_goals
        go_wp2
        go_meet
        case rel => exact ⟨rfl, by unfold Hid; rw [← ints_set V]; exact S2.out.drew⟩
    case rest =>
      obtain ⟨rfl, hN⟩ := hcut
      clear hM S2 t1 vm fv vi
      have P1 := (hN.out.pop (i := 2) rfl (by rw [List.length_set]; exact HK.out)).pop (i := 3) rfl (by rw [List.length_set]; exact HV.out)
      have Q1 := hideIt ((P1.store (i := 1) (j := 0) rfl (.slice (some ⟨gk, 0, none⟩) m ck) rfl).store (i := 1) (j := 1) rfl (.slice (some ⟨gv, 0, none⟩) m cv) rfl)
      have t0 := hN.out.cell (i := 1) rfl 0 (.slice (some ⟨gk, 0, none⟩) (m + 1) ck) rfl
      have t1 := hN.out.cell (i := 1) rfl 1 (.slice (some ⟨gv, 0, none⟩) (m + 1) cv) rfl
      have f0 := hN.out.free (i := 1) rfl 0
      have f1 := hN.out.free (i := 1) rfl 1
      have c1 : m ≤ ck := by
        rcases (hN.out.get (i := 2) rfl).own.2 with ⟨h, -⟩ | ⟨g, cap, cur, h, -, -, h3, -⟩
        · cases h
        · cases h; omega
      have c2 : m ≤ cv := by
        rcases (hN.out.get (i := 3) rfl).own.2 with ⟨h, -⟩ | ⟨g, cap, cur, h, -, -, h3, -⟩
        · cases h
        · cases h; omega
      clear P1 hN
      go_wp2
      exact bodyPost_end (results_none Tryd.results69 _ _ _) rfl ⟨⟨_, rfl⟩, _, _, Q1.out.sub (List.sublist_cons_self _ _)⟩

set_option maxRecDepth 100000 in
set_option maxHeartbeats 1600000 in
theorem do_none (gt n : Nat) (kv vv : Value) (K V : List Int) (kd key v : Int) (fr : List As) (w0 w : World) (B : Nat) (hn : n ≤ 1000000000) (hK : K.length = n) (h1 : kd ≠ 2) (h2 : kd ≠ 3 ∨ key ∉ K)
    (h : M w0 B w (.blk gt #[kv, vv] 84 :: .row 3 1 kv n (ints K) :: .row 3 1 vv n (ints V) :: fr)) :
    Calls Tryd.prog 69 #[.pointer (some ⟨gt, 0, none⟩), .agg #[.int .i64 kd, .int .i64 key, .int .i64 v]] w fun e w' => (∃ u, e = .returned u) ∧ M w0 B w' (.blk gt #[kv, vv] 84 :: .row 3 1 kv n (ints K) :: .row 3 1 vv n (ints V) :: fr) := by
  have A0 := hideIt (h.alloc #[.int .i64 kd, .int .i64 key, .int .i64 v] 37)
  have C := hideIt (find_any gt kv K key (w.alloc (.cells #[.int .i64 kd, .int .i64 key, .int .i64 v] 37)) (A0.out.cell (i := 1) rfl 0 kv rfl) (owns_rd (As.holds.own (by have := A0.out.get (i := 2) rfl; rw [← hK] at this; exact this))) (by omega))
  have hk2 : (kd == 2) = false := by simp [h1]
  clear h h1 hK
  go_enter Tryd.func69, Tryd.ntmps69
  go_wp2_with fail
  refine C.out.mono ?_
  rintro e w' ⟨r, rfl, hF, rfl⟩
  have o0 := A0.out.cell (i := 0) rfl 0 (.int .i64 kd) rfl
  clear C
  by_cases h3 : kd = 3
  · have hr : r = -1 := by
      rcases hF with ⟨e, -⟩ | ⟨j, rfl, j1, j2⟩
      · exact e
      · rcases h2 with h2 | h2
        · exact absurd h3 h2
        · exact absurd (List.mem_of_getElem? j1) h2
    subst hr
    have hk3 : (kd == 3) = true := by simp [h3]
    clear hF h2 h3
    go_wp2
    exact bodyPost_end (results_none Tryd.results69 _ _ _) rfl ⟨⟨_, rfl⟩, A0.out.sub (List.sublist_cons_self _ _)⟩
  · have hk3 : (kd == 3) = false := by simp [h3]
    clear hF h2 h3
    go_wp2
    exact bodyPost_end (results_none Tryd.results69 _ _ _) rfl ⟨⟨_, rfl⟩, A0.out.sub (List.sublist_cons_self _ _)⟩
end Go.Proofs.YtjpgldeeopmbgaaDoor.Sap
