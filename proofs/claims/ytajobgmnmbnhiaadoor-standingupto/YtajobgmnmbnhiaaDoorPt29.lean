/- WHAT IS PROVED HERE: saplingkeep's says and fitted: the node of a page. Conditions: the page unpacks, or it is free; named at each theorem. -/
import Derived.Test.YtajobgmnmbnhiaaDoorPt18
import Derived.Test.YtajobgmnmbnhiaaDoorPt30
namespace Go.Proofs.YtajobgmnmbnhiaaDoor.Sap
open Go.RowKit
theorem PgR.below {gw tg tc ug uc : Nat} {T : List ByteArray} {U : List Bool} {w w' : World} (h : PgR gw tg tc ug uc T U w) (hb : Below w.heap.size w w') : PgR gw tg tc ug uc T U w' := by
  obtain ⟨h1, h2, h3⟩ := h
  refine ⟨cell_below hb _ _ h1, cell_below hb _ _ h2, fun p hp => ?_⟩
  obtain ⟨t, b, a1, a2, a3, a4⟩ := h3 p hp
  exact ⟨t, b, a1, a2, cell_below hb _ _ a3, cell_below hb _ _ a4⟩
theorem vals_len {n : Nd} (h : rightB n = true) : n.ks.length = n.vs.length := by
  simp only [rightB, Bool.and_eq_true, decide_eq_true_eq] at h
  omega
set_option maxRecDepth 100000 in
set_option maxHeartbeats 3200000 in
theorem says_yes (gw tg tc ug uc p : Nat) (T : List ByteArray) (U : List Bool) (n : Nd) (w : World) (h : PgR gw tg tc ug uc T U w) (hs : Says T U p n) :
    Calls Tryd.prog 57 #[.pointer (some ⟨gw, 0, none⟩), .int .i64 p] w fun e w' => ∃ kv vv, e = .returned (.tuple #[.agg #[.int .i64 n.lv, .int .i64 n.lk, .int .i64 n.hi, kv, vv], .bool true]) ∧ M w w.heap.size w' [.row 3 1 kv n.ks.length (ints n.ks), .row 3 1 vv n.vs.length (ints n.vs)] := by
  obtain ⟨hp, hu, t, ht, hn⟩ := hs
  obtain ⟨c0, c1, c2⟩ := h
  obtain ⟨t', b, a1, a2, a3, a4⟩ := c2 p hp
  rw [ht] at a1; cases a1
  rw [hu] at a2; cases a2
  have A0 := hideIt ((M.start w).alloc #[.int .i64 0, .int .i64 0, .int .i64 0, .slice none 0 0, .slice none 0 0] 24)
  have k0 := cell_below A0.out.bl _ _ c0
  have k1 := hideIt (cell_below A0.out.bl _ _ c1)
  have k3 := cell_below A0.out.bl _ _ a3
  have k4 := hideIt (cell_below A0.out.bl _ _ a4)
  have hsz := size_of_unp ⟨n, hn⟩
  have hp1 : (0 : Int) ≤ (p : Int) := by omega
  have hp2 : (p : Int) < 64 := by omega
  have hle := vals_len hn.1
  have HN := hideIt hn
  clear c0 c1 c2 a3 a4 ht hu hn
  go_enter Tryd.func57, Tryd.ntmps57
  go_wp2_with fail
  refine (there_yes gw ug uc p _ k1.out k4.out hp).mono ?_
  rintro e w1 ⟨rfl, rfl⟩
  go_wp2_with fail
  refine (unpack_any t _ (by omega)).mono ?_
  rintro e w2 ⟨hR, hb⟩
  rcases hR with ⟨n', kv, vv, hn', hO, rfl⟩ | ⟨hno, -⟩
  case inr => exact absurd HN.out (hno n)
  obtain rfl : n' = n := hn'.uniq HN.out
  have A1 := A0.out.join (hO.m hb)
  obtain ⟨ka, kc, rfl⟩ := As.form0 (A1.get (i := 0) rfl)
  obtain ⟨va, vc, rfl⟩ := As.form0 (A1.get (i := 1) rfl)
  have A2 := hideIt (A1.alloc #[.int .i64 n'.lv, .int .i64 n'.lk, .int .i64 n'.hi, .slice ka n'.ks.length kc, .slice va n'.vs.length vc] 24)
  obtain ⟨g0, hg0⟩ : ∃ g, w.heap.size = g := ⟨_, rfl⟩
  have HG := hideIt hg0
  rw [hg0] at A1 A2 ⊢
  have r0 := A1.cell (i := 2) rfl 0 (.int .i64 0) rfl
  have r1 := A1.cell (i := 2) rfl 1 (.int .i64 0) rfl
  have r2 := A1.cell (i := 2) rfl 2 (.int .i64 0) rfl
  have r3 := A1.cell (i := 2) rfl 3 (.slice none 0 0) rfl
  have r4 := A1.cell (i := 2) rfl 4 (.slice none 0 0) rfl
  have f0 := A1.free (i := 2) rfl 0
  have f1 := A1.free (i := 2) rfl 1
  have f2 := A1.free (i := 2) rfl 2
  have f3 := A1.free (i := 2) rfl 3
  have f4 := A1.free (i := 2) rfl 4
  have hl := A1.lt (i := 2) rfl
  have S5 := hideIt ((A1.store5 (i := 2) rfl (.int .i64 n'.lv) (.int .i64 n'.lk) (.int .i64 n'.hi) (.slice ka n'.ks.length kc) (.slice va n'.vs.length vc)).sub (l' := [_, _]) (List.Sublist.cons_cons _ (List.Sublist.cons_cons _ (List.nil_sublist _))))
  have hlb : ((n'.ks.length : Int) == (n'.vs.length : Int)) = true := by simp [hle]
  have hlb2 : (n'.ks.length == n'.vs.length) = true := by simp [hle]
  clear A0 A1 hO hb hn' k0 k3 HN hle hg0
  go_wp2
  go_region
  all_goals
    go_wp2
    refine bodyPost_ret (v := .tuple #[.agg #[.int .i64 n'.lv, .int .i64 n'.lk, .int .i64 n'.hi, .slice ka n'.ks.length kc, .slice va n'.vs.length vc], .bool true]) (by simp [results, Tryd.results57, go_sem, *]) rfl ⟨_, _, rfl, ?_⟩
    rw [HG.out]
    exact (S5.out.allocd _).drew
def tdo (kd key v : Int) (K V : List Int) : List Int × List Int :=
  if key ∈ K then
    if kd = 2 then (K, V.set (K.idxOf key) v)
    else if kd = 3 then ((K.set (K.idxOf key) (K[K.length - 1]?.getD 0)).take (K.length - 1), (V.set (K.idxOf key) (V[K.length - 1]?.getD 0)).take (K.length - 1))
    else (K, V)
  else if kd = 2 then (K ++ [key], V ++ [v]) else (K, V)
theorem idx_of_first {K : List Int} {key : Int} : ∀ {i : Nat}, K[i]? = some key → (∀ j, j < i → K[j]?.getD 0 ≠ key) → K.idxOf key = i := by
  induction K with
  | nil => intro i h1 _; simp at h1
  | cons a K ih =>
    intro i h1 h2
    by_cases ha : a = key
    · subst ha
      cases i with
      | zero => simp
      | succ i => exact absurd rfl (h2 0 (by omega))
    · cases i with
      | zero => simp at h1; exact absurd h1 ha
      | succ i =>
        rw [List.idxOf_cons, show (a == key) = false by simp [ha]]
        show K.idxOf key + 1 = i + 1
        rw [ih (i := i) (by simpa using h1) (fun j hj => by have := h2 (j + 1) (by omega); simpa using this)]
theorem ints_set (L : List Int) (i : Nat) (x : Int) : (ints L).set i (.int .i64 x) = ints (L.set i x) := by simp [ints, List.map_set]
set_option maxRecDepth 100000 in
set_option maxHeartbeats 1600000 in
theorem do_set (gt n i : Nat) (kv vv : Value) (K V : List Int) (key v : Int) (fr : List As) (w0 w : World) (B : Nat) (hn : n ≤ 1000000000) (hK : K.length = n) (hV : V.length = n) (h1 : K[i]? = some key) (h2 : ∀ j, j < i → K[j]?.getD 0 ≠ key)
    (h : M w0 B w (.blk gt #[kv, vv] 67 :: .row 3 1 kv n (ints K) :: .row 3 1 vv n (ints V) :: fr)) :
    Calls Tryd.prog 59 #[.pointer (some ⟨gt, 0, none⟩), .agg #[.int .i64 2, .int .i64 key, .int .i64 v]] w fun e w' => (∃ u, e = .returned u) ∧
      M w0 B w' (.blk gt #[kv, vv] 67 :: .row 3 1 kv n (ints K) :: .row 3 1 vv n (ints (V.set i v)) :: fr) := by
  have hi : i < n := by rw [← hK]; exact (List.getElem?_eq_some_iff.1 h1).1
  obtain ⟨gv, cv, rfl⟩ := As.form (h.get (i := 2) rfl) (by omega)
  have hr : As.holds w B (.row 3 1 kv n (ints K)) := h.get (i := 1) rfl
  rw [← hK] at hr
  have HR := hideIt (owns_rd hr)
  have A0 := hideIt (h.alloc #[.int .i64 2, .int .i64 key, .int .i64 v] 37)
  have C := hideIt (find_any gt kv K key (w.alloc (.cells #[.int .i64 2, .int .i64 key, .int .i64 v] 37)) (A0.out.cell (i := 1) rfl 0 kv rfl) (owns_rd (As.holds.own (by have := A0.out.get (i := 2) rfl; rw [← hK] at this; exact this))) (by omega))
  have H1 := hideIt h1
  have H2 := hideIt h2
  have hi0 : (0 : Int) ≤ (i : Int) := by omega
  have hi1 : (i : Int) < (n : Int) := by omega
  clear h hr h1 h2 hK hV
  go_enter Tryd.func59, Tryd.ntmps59
  go_wp2_with fail
  refine C.out.mono ?_
  rintro e w' ⟨r, rfl, hF, rfl⟩
  have hr : r = (i : Int) := by
    rcases hF with ⟨-, hno⟩ | ⟨j, rfl, j1, j2⟩
    · exact absurd (List.mem_of_getElem? H1.out) hno
    · rw [← idx_of_first j1 j2, ← idx_of_first H1.out H2.out]
  subst hr
  clear C hF
  obtain ⟨go, hgo⟩ : ∃ g, w.heap.size = g := ⟨_, rfl⟩
  rw [hgo] at A0 ⊢
  have o0 := A0.out.cell (i := 0) rfl 0 (.int .i64 2) rfl
  have o1 := A0.out.cell (i := 0) rfl 1 (.int .i64 key) rfl
  have o2 := A0.out.cell (i := 0) rfl 2 (.int .i64 v) rfl
  have t1 := A0.out.cell (i := 1) rfl 1 (.slice (some ⟨gv, 0, none⟩) n cv) rfl
  have S := hideIt (A0.out.storeRow (i := 3) (j := i) rfl (.int .i64 v))
  have fz := World.ownsRow.frozenAt (A0.out.get (i := 3) rfl).own i
  have cz := A0.out.rowCell (i := 3) rfl i _ (ints_at' V i (by have := (A0.out.get (i := 3) rfl).own.1; simp [len_ints] at this; omega))
  clear hgo A0
  go_wp2
  go_region
  all_goals
    go_wp2
    refine bodyPost_end (results_none Tryd.results59 _ _ _) rfl ⟨⟨_, rfl⟩, ?_⟩
    rw [← ints_set]
    exact (S.out.sub (List.sublist_cons_self _ _)).drew
set_option maxRecDepth 100000 in
set_option maxHeartbeats 3200000 in
theorem do_add (gt n : Nat) (kv vv : Value) (K V : List Int) (key v : Int) (fr : List As) (w0 w : World) (B : Nat) (hn : n ≤ 1000000000) (hK : K.length = n) (hV : V.length = n) (h1 : key ∉ K)
    (h : M w0 B w (.blk gt #[kv, vv] 67 :: .row 3 1 kv n (ints K) :: .row 3 1 vv n (ints V) :: fr)) :
    Calls Tryd.prog 59 #[.pointer (some ⟨gt, 0, none⟩), .agg #[.int .i64 2, .int .i64 key, .int .i64 v]] w fun e w' => (∃ u, e = .returned u) ∧ ∃ kv' vv',
      M w0 B w' (.blk gt #[kv', vv'] 67 :: .row 3 1 kv' (n + 1) (ints (K ++ [key])) :: .row 3 1 vv' (n + 1) (ints (V ++ [v])) :: fr) := by
  obtain ⟨i0, hi0, hz0, hz1, hz2⟩ := info_parts infoInt
  obtain ⟨ka, ck, rfl⟩ := As.form0 (h.get (i := 1) rfl)
  obtain ⟨va, cv, rfl⟩ := As.form0 (h.get (i := 2) rfl)
  have A0 := hideIt (h.alloc #[.int .i64 2, .int .i64 key, .int .i64 v] 37)
  have C := hideIt (find_any gt (.slice ka n ck) K key (w.alloc (.cells #[.int .i64 2, .int .i64 key, .int .i64 v] 37)) (A0.out.cell (i := 1) rfl 0 (.slice ka n ck) rfl) (owns_rd (As.holds.own (by have := A0.out.get (i := 2) rfl; rw [← hK] at this ⊢; exact this))) (by omega))
  have H1 := hideIt h1
  clear h h1 hK hV
  go_enter Tryd.func59, Tryd.ntmps59
  go_wp2_with fail
  refine C.out.mono ?_
  rintro e w' ⟨r, rfl, hF, rfl⟩
  have hr : r = -1 := by
    rcases hF with ⟨e, -⟩ | ⟨j, rfl, j1, j2⟩
    · exact e
    · exact absurd (List.mem_of_getElem? j1) H1.out
  subst hr
  clear C hF
  obtain ⟨go, hgo⟩ : ∃ g, w.heap.size = g := ⟨_, rfl⟩
  rw [hgo] at A0 ⊢
  obtain ⟨w1, hw1⟩ : ∃ x, w.alloc (.cells #[.int .i64 2, .int .i64 key, .int .i64 v] 37) = x := ⟨_, rfl⟩
  rw [hw1] at A0 ⊢
  clear hw1
  have o0 := A0.out.cell (i := 0) rfl 0 (.int .i64 2) rfl
  have o1 := A0.out.cell (i := 0) rfl 1 (.int .i64 key) rfl
  have t0 := A0.out.cell (i := 1) rfl 0 (.slice ka n ck) rfl
  have f0 := A0.out.free (i := 1) rfl 0
  have hlt := A0.out.lt (i := 1) rfl
  clear hgo
  go_upto_region 5 with fail
  go_cut [] (fun wy => ∃ kv', Hid (M w0 B wy (.blk go #[.int .i64 2, .int .i64 key, .int .i64 v] 37 :: .blk gt #[kv', .slice va n cv] 67 :: .row 3 1 kv' (n + 1) (ints (K ++ [key])) :: .row 3 1 (.slice va n cv) n (ints V) :: fr)))
  case first =>
    go_region_law (refine step_append_lies _ rfl _ _ 22 rfl B 3 i0 (.int .i64 0) 1 8 Tryd.underlying22 hi0 hz0 hz1 hz2 rfl (by decide) _ n (ints K) rfl (World.ownsRow.alloc (A0.out.get (i := 2) rfl) _) ⟨_, 0, none⟩ 1 1 [.int .i64 key] rfl rfl (by have := news_one w1 (.int .i64 key) 3; simpa using this) (by simp [Value.oneCell']) (by omega) (by unfold maxLen; omega) (by omega) (by have := A0.out.sz; simp at this ⊢; omega) _ rfl ?_; intro g1 cap1 w5 hown hgrow hat hlt1; rw [← ints_snoc] at hown; have hm := (A0.out.allocd _).drew.lies (i := 2) rfl hown hgrow hat; clear o0 o1 t0 f0 hlt hown hgrow hat; have t0 := hm.cell (i := 1) rfl 0 (.slice ka n ck) rfl; have f0 := hm.free (i := 1) rfl 0; have hlt := hm.lt (i := 1) rfl; have H2 := hideIt (hm.store (i := 1) (j := 0) rfl (.slice (some ⟨g1, 0, none⟩) (n + 1) cap1) rfl); clear hm)
    all_goals
      go_wp2
      go_meet
      case rel => exact ⟨_, H2.out⟩
  case rest =>
    obtain ⟨kv', hM⟩ := hcut
    clear A0 o0 o1 t0 f0 hlt
    have o2 := hM.out.cell (i := 0) rfl 2 (.int .i64 v) rfl
    have t1 := hM.out.cell (i := 1) rfl 1 (.slice va n cv) rfl
    have f1 := hM.out.free (i := 1) rfl 1
    have hlt := hM.out.lt (i := 1) rfl
    go_upto_region 6 with fail
    go_region_law (refine step_append_lies _ rfl _ _ 22 rfl B 3 i0 (.int .i64 0) 1 8 Tryd.underlying22 hi0 hz0 hz1 hz2 rfl (by decide) _ n (ints V) rfl (World.ownsRow.alloc (hM.out.get (i := 3) rfl) _) ⟨_, 0, none⟩ 1 1 [.int .i64 v] rfl rfl (by have := news_one wc (.int .i64 v) 3; simpa using this) (by simp [Value.oneCell']) (by omega) (by unfold maxLen; omega) (by omega) (by have := hM.out.sz; simp at this ⊢; omega) _ rfl ?_; intro g2 cap2 w6 hown hgrow hat hlt1; rw [← ints_snoc] at hown; have hm := (hM.out.allocd _).drew.lies (i := 3) rfl hown hgrow hat; clear o2 t1 f1 hlt hown hgrow hat; have t1 := hm.cell (i := 1) rfl 1 (.slice va n cv) rfl; have f1 := hm.free (i := 1) rfl 1; have hlt := hm.lt (i := 1) rfl; have H2 := hideIt (hm.store (i := 1) (j := 1) rfl (.slice (some ⟨g2, 0, none⟩) (n + 1) cap2) rfl); clear hm)
    all_goals
      go_wp2
      exact bodyPost_end (results_none Tryd.results59 _ _ _) rfl ⟨⟨_, rfl⟩, _, _, H2.out.sub (List.sublist_cons_self _ _)⟩
theorem M.pop {w0 w : World} {B i g m cap : Nat} {l : List As} {L : List Int} (h : M w0 B w l) (hi : l[i]? = some (.row 3 1 (.slice (some ⟨g, 0, none⟩) (m + 1) cap) (m + 1) (ints L))) (hL : L.length = m + 1) : M w0 B w (l.set i (.row 3 1 (.slice (some ⟨g, 0, none⟩) m cap) m (ints (L.take m)))) := by
  refine h.upd hi ⟨rfl, rfl, rfl, Nat.le_refl _, fun _ _ _ => rfl⟩ ?_ (Or.inl rfl)
  have hr := (h.get hi).own
  have e : ints L = ints (L.take m) ++ ints (L.drop m) := by unfold ints; rw [← List.map_append, List.take_append_drop]
  rw [e] at hr
  exact ownsRow_pop (by rw [len_ints, List.length_take]; omega) hr
set_option maxRecDepth 100000 in
set_option maxHeartbeats 3200000 in
theorem do_drop (gt m i : Nat) (kv vv : Value) (K V : List Int) (key v : Int) (fr : List As) (w0 w : World) (B : Nat) (hn : m < 1000000000) (hK : K.length = m + 1) (hV : V.length = m + 1) (h1 : K[i]? = some key) (h2 : ∀ j, j < i → K[j]?.getD 0 ≠ key)
    (h : M w0 B w (.blk gt #[kv, vv] 67 :: .row 3 1 kv (m + 1) (ints K) :: .row 3 1 vv (m + 1) (ints V) :: fr)) :
    Calls Tryd.prog 59 #[.pointer (some ⟨gt, 0, none⟩), .agg #[.int .i64 3, .int .i64 key, .int .i64 v]] w fun e w' => (∃ u, e = .returned u) ∧ ∃ kv' vv',
      M w0 B w' (.blk gt #[kv', vv'] 67 :: .row 3 1 kv' m (ints ((K.set i (K[m]?.getD 0)).take m)) :: .row 3 1 vv' m (ints ((V.set i (V[m]?.getD 0)).take m)) :: fr) := by
  have hi : i < m + 1 := by rw [← hK]; exact (List.getElem?_eq_some_iff.1 h1).1
  obtain ⟨gk, ck, rfl⟩ := As.form (h.get (i := 1) rfl) (by omega)
  obtain ⟨gv, cv, rfl⟩ := As.form (h.get (i := 2) rfl) (by omega)
  have A0 := hideIt (h.alloc #[.int .i64 3, .int .i64 key, .int .i64 v] 37)
  have C := hideIt (find_any gt (.slice (some ⟨gk, 0, none⟩) (m + 1) ck) K key (w.alloc (.cells #[.int .i64 3, .int .i64 key, .int .i64 v] 37)) (A0.out.cell (i := 1) rfl 0 (.slice (some ⟨gk, 0, none⟩) (m + 1) ck) rfl) (owns_rd (As.holds.own (by have := A0.out.get (i := 2) rfl; rw [← hK] at this ⊢; exact this))) (by omega))
  have H1 := hideIt h1
  have H2 := hideIt h2
  have hi0 : (0 : Int) ≤ (i : Int) := by omega
  have hi1 : (i : Int) < ((m + 1 : Nat) : Int) := by omega
  have hm0 : (0 : Int) ≤ (m : Int) := by omega
  have hm1 : (m : Int) < ((m + 1 : Nat) : Int) := by omega
  have hms : ((m + 1 : Nat) : Int) - 1 = (m : Int) := by omega
  have HK := hideIt hK
  have HV := hideIt hV
  clear h h1 h2 hK hV
  go_enter Tryd.func59, Tryd.ntmps59
  go_wp2_with fail
  refine C.out.mono ?_
  rintro e w' ⟨r, rfl, hF, rfl⟩
  have hr : r = (i : Int) := by
    rcases hF with ⟨-, hno⟩ | ⟨j, rfl, j1, j2⟩
    · exact absurd (List.mem_of_getElem? H1.out) hno
    · rw [← idx_of_first j1 j2, ← idx_of_first H1.out H2.out]
  subst hr
  clear C hF
  obtain ⟨go, hgo⟩ : ∃ g, w.heap.size = g := ⟨_, rfl⟩
  rw [hgo] at A0 ⊢
  obtain ⟨w1, hw1⟩ : ∃ x, w.alloc (.cells #[.int .i64 3, .int .i64 key, .int .i64 v] 37) = x := ⟨_, rfl⟩
  rw [hw1] at A0 ⊢
  clear hw1 hgo
  have o0 := A0.out.cell (i := 0) rfl 0 (.int .i64 3) rfl
  have t0 := A0.out.cell (i := 1) rfl 0 (.slice (some ⟨gk, 0, none⟩) (m + 1) ck) rfl
  have km := A0.out.rowCell (i := 2) rfl m _ (ints_at' K m (by rw [HK.out]; omega))
  have fk := A0.out.rowFree (i := 2) rfl i
  have ki := A0.out.rowCell (i := 2) rfl i _ (ints_at' K i (by rw [HK.out]; omega))
  have S1 := hideIt (A0.out.storeRow (i := 2) (j := i) rfl (.int .i64 (K[m]?.getD 0)))
  go_upto_region 9 with fail
  go_cut [5] (fun u wy => u = .int .i64 (m : Int) ∧ Hid (M w0 B wy (.blk go #[.int .i64 3, .int .i64 key, .int .i64 v] 37 :: .blk gt #[.slice (some ⟨gk, 0, none⟩) (m + 1) ck, .slice (some ⟨gv, 0, none⟩) (m + 1) cv] 67 :: .row 3 1 (.slice (some ⟨gk, 0, none⟩) (m + 1) ck) (m + 1) (ints (K.set i (K[m]?.getD 0))) :: .row 3 1 (.slice (some ⟨gv, 0, none⟩) (m + 1) cv) (m + 1) (ints V) :: fr)))
  case first =>
    go_region
    all_goals
      go_wp2
      go_meet
      case rel => exact ⟨by go_num, by unfold Hid; rw [← ints_set]; exact S1.out.drew⟩
  case rest =>
    obtain ⟨rfl, hM⟩ := hcut
    clear A0 S1 o0 t0 km fk ki
    have t1 := hM.out.cell (i := 1) rfl 1 (.slice (some ⟨gv, 0, none⟩) (m + 1) cv) rfl
    have vm := hM.out.rowCell (i := 3) rfl m _ (ints_at' V m (by rw [HV.out]; omega))
    have fv := hM.out.rowFree (i := 3) rfl i
    have vi := hM.out.rowCell (i := 3) rfl i _ (ints_at' V i (by rw [HV.out]; omega))
    have S2 := hideIt (hM.out.storeRow (i := 3) (j := i) rfl (.int .i64 (V[m]?.getD 0)))
    go_upto_region 10 with fail
    go_cut [5] (fun u wy => u = .int .i64 (m : Int) ∧ Hid (M w0 B wy (.blk go #[.int .i64 3, .int .i64 key, .int .i64 v] 37 :: .blk gt #[.slice (some ⟨gk, 0, none⟩) (m + 1) ck, .slice (some ⟨gv, 0, none⟩) (m + 1) cv] 67 :: .row 3 1 (.slice (some ⟨gk, 0, none⟩) (m + 1) ck) (m + 1) (ints (K.set i (K[m]?.getD 0))) :: .row 3 1 (.slice (some ⟨gv, 0, none⟩) (m + 1) cv) (m + 1) (ints (V.set i (V[m]?.getD 0))) :: fr)))
    case first =>
      go_region
      all_goals
        go_wp2
        go_meet
        case rel => exact ⟨rfl, by unfold Hid; rw [← ints_set V]; exact S2.out.drew⟩
    case rest =>
      obtain ⟨rfl, hN⟩ := hcut
      clear hM S2 t1 vm fv vi
      have P1 := (hN.out.pop (i := 2) rfl (by rw [List.length_set]; exact HK.out)).pop (i := 3) rfl (by rw [List.length_set]; exact HV.out)
      have Q1 := hideIt ((P1.store (i := 1) (j := 0) rfl (.slice (some ⟨gk, 0, none⟩) m ck) rfl).store (i := 1) (j := 1) rfl (.slice (some ⟨gv, 0, none⟩) m cv) rfl)
      have t0 := hN.out.cell (i := 1) rfl 0 (.slice (some ⟨gk, 0, none⟩) (m + 1) ck) rfl
      have t1 := hN.out.cell (i := 1) rfl 1 (.slice (some ⟨gv, 0, none⟩) (m + 1) cv) rfl
      have f0 := hN.out.free (i := 1) rfl 0
      have f1 := hN.out.free (i := 1) rfl 1
      have c1 : m ≤ ck := by
        rcases (hN.out.get (i := 2) rfl).own.2 with ⟨h, -⟩ | ⟨g, cap, cur, h, -, -, h3, -⟩
        · cases h
        · cases h; omega
      have c2 : m ≤ cv := by
        rcases (hN.out.get (i := 3) rfl).own.2 with ⟨h, -⟩ | ⟨g, cap, cur, h, -, -, h3, -⟩
        · cases h
        · cases h; omega
      clear P1 hN
      go_wp2
      exact bodyPost_end (results_none Tryd.results59 _ _ _) rfl ⟨⟨_, rfl⟩, _, _, Q1.out.sub (List.sublist_cons_self _ _)⟩
set_option maxRecDepth 100000 in
set_option maxHeartbeats 1600000 in
theorem do_none (gt n : Nat) (kv vv : Value) (K V : List Int) (kd key v : Int) (fr : List As) (w0 w : World) (B : Nat) (hn : n ≤ 1000000000) (hK : K.length = n) (h1 : kd ≠ 2) (h2 : kd ≠ 3 ∨ key ∉ K)
    (h : M w0 B w (.blk gt #[kv, vv] 67 :: .row 3 1 kv n (ints K) :: .row 3 1 vv n (ints V) :: fr)) :
    Calls Tryd.prog 59 #[.pointer (some ⟨gt, 0, none⟩), .agg #[.int .i64 kd, .int .i64 key, .int .i64 v]] w fun e w' => (∃ u, e = .returned u) ∧ M w0 B w' (.blk gt #[kv, vv] 67 :: .row 3 1 kv n (ints K) :: .row 3 1 vv n (ints V) :: fr) := by
  have A0 := hideIt (h.alloc #[.int .i64 kd, .int .i64 key, .int .i64 v] 37)
  have C := hideIt (find_any gt kv K key (w.alloc (.cells #[.int .i64 kd, .int .i64 key, .int .i64 v] 37)) (A0.out.cell (i := 1) rfl 0 kv rfl) (owns_rd (As.holds.own (by have := A0.out.get (i := 2) rfl; rw [← hK] at this; exact this))) (by omega))
  have hk2 : (kd == 2) = false := by simp [h1]
  clear h h1 hK
  go_enter Tryd.func59, Tryd.ntmps59
  go_wp2_with fail
  refine C.out.mono ?_
  rintro e w' ⟨r, rfl, hF, rfl⟩
  have o0 := A0.out.cell (i := 0) rfl 0 (.int .i64 kd) rfl
  clear C
  by_cases h3 : kd = 3
  · have hr : r = -1 := by
      rcases hF with ⟨e, -⟩ | ⟨j, rfl, j1, j2⟩
      · exact e
      · rcases h2 with h2 | h2
        · exact absurd h3 h2
        · exact absurd (List.mem_of_getElem? j1) h2
    subst hr
    have hk3 : (kd == 3) = true := by simp [h3]
    clear hF h2 h3
    go_wp2
    exact bodyPost_end (results_none Tryd.results59 _ _ _) rfl ⟨⟨_, rfl⟩, A0.out.sub (List.sublist_cons_self _ _)⟩
  · have hk3 : (kd == 3) = false := by simp [h3]
    clear hF h2 h3
    go_wp2
    exact bodyPost_end (results_none Tryd.results59 _ _ _) rfl ⟨⟨_, rfl⟩, A0.out.sub (List.sublist_cons_self _ _)⟩
def tAt (l : List Dn) (i : Nat) : Int := (l[i]?.map Dn.t).getD 0
def seg2 (l : List Dn) (a b : Nat) : List Dn := (l.take b).drop a
def Srt (l : List Dn) : Prop := l.Pairwise fun a b => a.t ≤ b.t
def Blk (W : Nat) (l : List Dn) : Prop := ∀ q a b, q * W ≤ a → a < b → b < (q + 1) * W → b < l.length → tAt l a ≤ tAt l b
theorem seg2_succ (l : List Dn) (a b : Nat) (d : Dn) (hab : a ≤ b) (h : l[b]? = some d) : seg2 l a (b + 1) = seg2 l a b ++ [d] := by
  obtain ⟨hl, he⟩ := List.getElem?_eq_some_iff.1 h
  unfold seg2
  rw [List.take_add_one, h, Option.toList_some, List.drop_append_of_le_length (by rw [List.length_take]; omega)]
theorem seg2_nil (l : List Dn) (a : Nat) : seg2 l a a = [] := by unfold seg2; simp
theorem seg2_app (l : List Dn) (a b c : Nat) (hab : a ≤ b) (hbc : b ≤ c) : seg2 l a b ++ seg2 l b c = seg2 l a c := by
  unfold seg2
  rw [List.drop_take, List.drop_take, List.drop_take, show c - a = (b - a) + (c - b) by omega, List.take_add, List.drop_drop, show a + (b - a) = b by omega]
theorem tAt_get {l : List Dn} {i : Nat} {d : Dn} (h : l[i]? = some d) : tAt l i = d.t := by unfold tAt; rw [h]; rfl
theorem len_seg2 (l : List Dn) (a b : Nat) : (seg2 l a b).length = min b l.length - a := by unfold seg2; simp
structure Mrg (l : List Dn) (W fr i j : Nat) (mm : List Dn) : Prop where
  pm : mm.Perm (seg2 l fr i ++ seg2 l (fr + W) j)
  so : Srt mm
  i0 : fr ≤ i
  i1 : i ≤ fr + W
  j0 : fr + W ≤ j
  j1 : j ≤ fr + 2 * W
  hi : i < fr + W → i < l.length → ∀ x ∈ mm, x.t ≤ tAt l i
  hj : j < fr + 2 * W → j < l.length → ∀ x ∈ mm, x.t ≤ tAt l j
theorem Mrg.start (l : List Dn) (W fr : Nat) : Mrg l W fr fr (fr + W) [] :=
  ⟨by rw [seg2_nil, seg2_nil]; exact .refl _, .nil, Nat.le_refl _, by omega, Nat.le_refl _, by omega, fun _ _ x hx => (List.not_mem_nil hx).elim, fun _ _ x hx => (List.not_mem_nil hx).elim⟩
theorem srt_snoc {mm : List Dn} {d : Dn} (h : Srt mm) (h2 : ∀ x ∈ mm, x.t ≤ d.t) : Srt (mm ++ [d]) :=
  List.pairwise_append.2 ⟨h, List.pairwise_singleton _ _, fun a ha b hb => by rcases List.mem_singleton.1 hb with rfl; exact h2 a ha⟩
theorem Mrg.takeI {l : List Dn} {W q i j : Nat} {mm : List Dn} {d : Dn} (h : Mrg l W (q * (2 * W)) i j mm) (hB : Blk W l) (hi : i < q * (2 * W) + W) (hd : l[i]? = some d) (hle : j < q * (2 * W) + 2 * W → j < l.length → d.t ≤ tAt l j) : Mrg l W (q * (2 * W)) (i + 1) j (mm ++ [d]) := by
  have hl := (List.getElem?_eq_some_iff.1 hd).1
  have ht := tAt_get hd
  have i0 := h.i0
  refine ⟨?_, srt_snoc h.so (by rw [← ht]; exact h.hi hi hl), by omega, by omega, h.j0, h.j1, ?_, ?_⟩
  · rw [seg2_succ _ _ _ d h.i0 hd]
    refine (h.pm.append_right [d]).trans ?_
    rw [List.append_assoc, List.append_assoc]
    exact List.Perm.append_left _ List.perm_append_comm
  · intro h1 h2 x hx
    have hn : tAt l i ≤ tAt l (i + 1) := hB (2 * q) i (i + 1) (by rw [show 2 * q * W = q * (2 * W) by rw [Nat.mul_comm 2 q, Nat.mul_assoc]]; omega) (by omega) (by rw [show (2 * q + 1) * W = q * (2 * W) + W by rw [Nat.add_mul, Nat.mul_comm 2 q, Nat.mul_assoc, Nat.one_mul]]; omega) h2
    rcases List.mem_append.1 hx with hx | hx
    · exact Int.le_trans (h.hi hi hl x hx) hn
    · rcases List.mem_singleton.1 hx with rfl
      rw [← ht]; exact hn
  · intro h1 h2 x hx
    rcases List.mem_append.1 hx with hx | hx
    · exact h.hj h1 h2 x hx
    · rcases List.mem_singleton.1 hx with rfl
      exact hle h1 h2
theorem Mrg.takeJ {l : List Dn} {W q i j : Nat} {mm : List Dn} {d : Dn} (h : Mrg l W (q * (2 * W)) i j mm) (hB : Blk W l) (hj : j < q * (2 * W) + 2 * W) (hd : l[j]? = some d) (hle : i < q * (2 * W) + W → i < l.length → d.t ≤ tAt l i) : Mrg l W (q * (2 * W)) i (j + 1) (mm ++ [d]) := by
  have hl := (List.getElem?_eq_some_iff.1 hd).1
  have ht := tAt_get hd
  have j0 := h.j0
  refine ⟨?_, srt_snoc h.so (by rw [← ht]; exact h.hj hj hl), h.i0, h.i1, by omega, by omega, ?_, ?_⟩
  · rw [seg2_succ _ _ _ d h.j0 hd, ← List.append_assoc]
    exact h.pm.append_right [d]
  · intro h1 h2 x hx
    rcases List.mem_append.1 hx with hx | hx
    · exact h.hi h1 h2 x hx
    · rcases List.mem_singleton.1 hx with rfl
      exact hle h1 h2
  · intro h1 h2 x hx
    have hn : tAt l j ≤ tAt l (j + 1) := hB (2 * q + 1) j (j + 1) (by rw [show (2 * q + 1) * W = q * (2 * W) + W by rw [Nat.add_mul, Nat.mul_comm 2 q, Nat.mul_assoc, Nat.one_mul]]; omega) (by omega) (by rw [show (2 * q + 1 + 1) * W = q * (2 * W) + 2 * W by rw [Nat.add_assoc, Nat.add_mul, Nat.mul_comm 2 q, Nat.mul_assoc]]; omega) h2
    rcases List.mem_append.1 hx with hx | hx
    · exact Int.le_trans (h.hj hj hl x hx) hn
    · rcases List.mem_singleton.1 hx with rfl
      rw [← ht]; exact hn
structure Mds (l : List Dn) (W q : Nat) (out : List Dn) : Prop where
  pm : out.Perm (l.take (q * (2 * W)))
  bl : Blk (2 * W) out
theorem Mds.start (l : List Dn) (W : Nat) : Mds l W 0 [] := ⟨by simp, fun _ _ _ _ _ _ h => by simp at h⟩
theorem srt_at {mm : List Dn} (h : Srt mm) (a b : Nat) (hab : a < b) (hb : b < mm.length) : tAt mm a ≤ tAt mm b := by
  rw [tAt_get (List.getElem?_eq_getElem (show a < mm.length by omega)), tAt_get (List.getElem?_eq_getElem hb)]
  exact List.pairwise_iff_getElem.1 h a b (by omega) hb hab
theorem Mds.step {l : List Dn} {W q i j : Nat} {out mm : List Dn} (h : Mds l W q out) (hm : Mrg l W (q * (2 * W)) i j mm) (hlt : q * (2 * W) < l.length) (hi : ¬ (i < q * (2 * W) + W ∧ i < l.length)) (hj : ¬ (j < q * (2 * W) + 2 * W ∧ j < l.length)) : Mds l W (q + 1) (out ++ mm) := by
  have i0 := hm.i0
  have i1 := hm.i1
  have j0 := hm.j0
  have j1 := hm.j1
  have e1 : (q + 1) * (2 * W) = q * (2 * W) + 2 * W := by rw [Nat.add_mul, Nat.one_mul]
  have hlen : out.length = q * (2 * W) := by rw [h.pm.length_eq, List.length_take]; omega
  have hseg : seg2 l (q * (2 * W)) i ++ seg2 l (q * (2 * W) + W) j = seg2 l (q * (2 * W)) (q * (2 * W) + 2 * W) := by
    have a1 : seg2 l (q * (2 * W)) i = seg2 l (q * (2 * W)) (q * (2 * W) + W) := by
      rcases Nat.lt_or_ge i (q * (2 * W) + W) with h1 | h1
      · have h2 : l.length ≤ i := by
          rcases Nat.lt_or_ge i l.length with h3 | h3
          · exact absurd ⟨h1, h3⟩ hi
          · exact h3
        unfold seg2
        rw [List.take_of_length_le h2, List.take_of_length_le (by omega)]
      · rw [show i = q * (2 * W) + W by omega]
    have a2 : seg2 l (q * (2 * W) + W) j = seg2 l (q * (2 * W) + W) (q * (2 * W) + 2 * W) := by
      rcases Nat.lt_or_ge j (q * (2 * W) + 2 * W) with h1 | h1
      · have h2 : l.length ≤ j := by
          rcases Nat.lt_or_ge j l.length with h3 | h3
          · exact absurd ⟨h1, h3⟩ hj
          · exact h3
        unfold seg2
        rw [List.take_of_length_le h2, List.take_of_length_le (by omega)]
      · rw [show j = q * (2 * W) + 2 * W by omega]
    rw [a1, a2]
    exact seg2_app l _ _ _ (by omega) (by omega)
  have hml : mm.length ≤ 2 * W := by
    rw [hm.pm.length_eq, hseg, len_seg2]; omega
  refine ⟨?_, ?_⟩
  · rw [e1]
    have hp := hm.pm
    rw [hseg] at hp
    refine (h.pm.append hp).trans ?_
    have : l.take (q * (2 * W)) = seg2 l 0 (q * (2 * W)) := by unfold seg2; simp
    rw [this, seg2_app l 0 _ _ (by omega) (by omega)]
    unfold seg2
    simp
  · intro r a b h1 h2 h3 h4
    rw [List.length_append, hlen] at h4
    have hrr : (r + 1) * (2 * W) = r * (2 * W) + 2 * W := by rw [Nat.add_mul, Nat.one_mul]
    rcases Nat.lt_or_ge b (q * (2 * W)) with hb | hb
    · have ea : tAt (out ++ mm) a = tAt out a := by unfold tAt; rw [List.getElem?_append_left (by omega)]
      have eb : tAt (out ++ mm) b = tAt out b := by unfold tAt; rw [List.getElem?_append_left (by omega)]
      rw [ea, eb]
      exact h.bl r a b h1 h2 h3 (by omega)
    · have hqr : q * (2 * W) ≤ a := by
        have : q ≤ r := by
          rcases Nat.lt_or_ge r q with h5 | h5
          · have := Nat.mul_le_mul_right (2 * W) (show r + 1 ≤ q by omega)
            omega
          · exact h5
        have := Nat.mul_le_mul_right (2 * W) this
        omega
      have ea : tAt (out ++ mm) a = tAt mm (a - q * (2 * W)) := by unfold tAt; rw [List.getElem?_append_right (by omega), hlen]
      have eb : tAt (out ++ mm) b = tAt mm (b - q * (2 * W)) := by unfold tAt; rw [List.getElem?_append_right (by omega), hlen]
      rw [ea, eb]
      exact srt_at hm.so _ _ (by omega) (by omega)
theorem Mds.done {l : List Dn} {W q : Nat} {out : List Dn} (h : Mds l W q out) (hq : l.length ≤ q * (2 * W)) : out.Perm l ∧ Blk (2 * W) out := by
  refine ⟨?_, h.bl⟩
  have := h.pm
  rw [List.take_of_length_le hq] at this
  exact this
theorem blk_one (l : List Dn) : Blk 1 l := fun q a b h1 h2 h3 _ => by omega
theorem blk_all {W : Nat} {l : List Dn} (h : Blk W l) (hW : l.length ≤ W) : Srt l := by
  refine List.pairwise_iff_getElem.2 fun a b ha hb hab => ?_
  have := h 0 a b (by omega) hab (by omega) hb
  rw [tAt_get (List.getElem?_eq_getElem ha), tAt_get (List.getElem?_eq_getElem hb)] at this
  exact this
theorem infoDone : (Tryd.prog.info? 111).map (fun i => (i.zero, i.size, i.bytes)) = some (some (.agg #[.int .i64 0, .int .i64 0, .int .i64 0, .int .i64 0]), 4, 32) := by kernel_rfl
def dnc (l : List Dn) : List Value := l.flatMap fun d => [.int .i64 d.t, .int .i64 d.k, .int .i64 d.key, .int .i64 d.v]
theorem dnc_snoc (l : List Dn) (d : Dn) : dnc (l ++ [d]) = dnc l ++ [.int .i64 d.t, .int .i64 d.k, .int .i64 d.key, .int .i64 d.v] := by simp [dnc]
theorem dnc_at {l : List Dn} : ∀ {i : Nat} {d : Dn}, l[i]? = some d → (dnc l)[i * 4]? = some (.int .i64 d.t) ∧ (dnc l)[i * 4 + 1]? = some (.int .i64 d.k) ∧ (dnc l)[i * 4 + 2]? = some (.int .i64 d.key) ∧ (dnc l)[i * 4 + 3]? = some (.int .i64 d.v) := by
  induction l with
  | nil => intro i d h; simp at h
  | cons a l ih =>
    intro i d h
    have e : dnc (a :: l) = [.int .i64 a.t, .int .i64 a.k, .int .i64 a.key, .int .i64 a.v] ++ dnc l := rfl
    rw [e]
    cases i with
    | zero => simp at h; subst h; exact ⟨rfl, rfl, rfl, rfl⟩
    | succ i =>
      obtain ⟨h1, h2, h3, h4⟩ := ih (i := i) (d := d) (by simpa using h)
      rw [show (i + 1) * 4 = 4 + i * 4 by omega]
      refine ⟨?_, ?_, ?_, ?_⟩
      · rw [List.getElem?_append_right (by simp)]; simpa using h1
      · rw [List.getElem?_append_right (by simp; omega)]; simpa [Nat.add_assoc] using h2
      · rw [List.getElem?_append_right (by simp; omega)]; simpa [Nat.add_assoc] using h3
      · rw [List.getElem?_append_right (by simp; omega)]; simpa [Nat.add_assoc] using h4
theorem M.dnCell {w0 w : World} {B i g n cap : Nat} {l : List As} {L : List Dn} (h : M w0 B w l) (hi : l[i]? = some (.row 111 4 (.slice (some ⟨g, 0, none⟩) n cap) n (dnc L))) {j : Nat} {d : Dn} (hj : L[j]? = some d) (hjn : j < n) :
    w.cell? ⟨g, j * 4, none⟩ = some (.int .i64 d.t) ∧ w.cell? ⟨g, j * 4 + 1, none⟩ = some (.int .i64 d.k) ∧ w.cell? ⟨g, j * 4 + 2, none⟩ = some (.int .i64 d.key) ∧ w.cell? ⟨g, j * 4 + 3, none⟩ = some (.int .i64 d.v) := by
  have hr := (h.get hi).own
  obtain ⟨h1, h2, h3, h4⟩ := dnc_at hj
  refine ⟨?_, ?_, ?_, ?_⟩
  · rw [World.ownsRow.cellAt hr _ (by omega)]; exact h1
  · rw [World.ownsRow.cellAt hr _ (by omega)]; exact h2
  · rw [World.ownsRow.cellAt hr _ (by omega)]; exact h3
  · rw [World.ownsRow.cellAt hr _ (by omega)]; exact h4
set_option maxRecDepth 100000 in
set_option maxHeartbeats 6400000 in
theorem merged_any (lv : Value) (l : List Dn) (W n : Nat) (fr : List As) (w0 w : World) (B : Nat) (hn : l.length = n) (hn1 : n ≤ 100000000) (hW0 : 1 ≤ W) (hW1 : W ≤ 100000000) (hBk : Blk W l)
    (h : M w0 B w (.row 111 4 lv n (dnc l) :: fr)) :
    Calls Tryd.prog 88 #[lv, .int .i64 W] w fun e w' => ∃ ov, e = .returned ov ∧ ∃ out, out.Perm l ∧ Blk (2 * W) out ∧ M w0 B w' (.row 111 4 ov n (dnc out) :: .row 111 4 lv n (dnc l) :: fr) := by
  obtain ⟨j0, hj0, hy0, hy1, hy2⟩ := info_parts infoDone
  obtain ⟨la, lc, rfl⟩ := As.form0 (h.get (i := 0) rfl)
  have A0 := hideIt (M.nil2 (e := 111) (z := 4) (l1 := []) h)
  have HB := hideIt hBk
  have HN := hideIt hn
  have hW0' : (1 : Int) ≤ (W : Int) := by omega
  clear h hBk hn
  go_enter Tryd.func88, Tryd.ntmps88
  go_wp2
  go_loopw [5, 6] (fun ov fm wr => ∃ (q m : Nat) (out : List Dn), fm = .int .i64 (q * (2 * W) : Nat) ∧ q * (2 * W) < n + 2 * W ∧ Hid (out.length = m) ∧ m ≤ n ∧ Hid (Mds l W q out) ∧ Hid (M w0 B wr (.row 111 4 ov m (dnc out) :: .row 111 4 (.slice la n lc) n (dnc l) :: fr))) (fun _ fm _ => n + 2 * W - (intOf fm).toNat)
  case atStart => exact ⟨0, 0, [], by simp, by omega, rfl, by omega, Mds.start l W, A0.out⟩
  case round =>
    clear A0
    obtain ⟨q, m, out, rfl, hq, hol, hm, hD, hM⟩ := hrel
    obtain ⟨oa, oc, rfl⟩ := As.form0 (hM.out.get (i := 0) rfl)
    obtain ⟨F, hF⟩ : ∃ F, q * (2 * W) = F := ⟨_, rfl⟩
    have HF := hideIt hF
    rw [hF] at hq ⊢
    clear hF
    by_cases hlt : F < n
    · have hFn : (F : Int) < (n : Int) := by omega
      obtain ⟨g, lc', hla⟩ := As.form (hM.out.get (i := 1) rfl) (by omega)
      cases hla
      go_wp2
      go_loopw [5, 7, 8] (fun ov vi vj wx => ∃ (i j m2 : Nat) (mm : List Dn), vi = .int .i64 i ∧ vj = .int .i64 j ∧ F ≤ i ∧ i ≤ F + W ∧ F + W ≤ j ∧ j ≤ F + 2 * W ∧ Hid ((out ++ mm).length = m2) ∧ Hid (m2 = m + (i - F) + (j - (F + W))) ∧ m2 ≤ n + 2 * W ∧ Hid (Mrg l W F i j mm) ∧ Hid (M w0 B wx (.row 111 4 ov m2 (dnc (out ++ mm)) :: .row 111 4 (.slice (some ⟨g, 0, none⟩) n lc) n (dnc l) :: fr))) (fun _ vi vj _ => 2 * F + 3 * W - (intOf vi).toNat - (intOf vj).toNat)
      case atStart => exact ⟨F, F + W, m, [], rfl, by go_num, by omega, by omega, by omega, by omega, by unfold Hid; rw [List.append_nil]; exact hol.out, by unfold Hid; omega, by omega, Mrg.start l W F, by unfold Hid; rw [List.append_nil]; exact hM.out⟩
      case round =>
        clear hM hol
        obtain ⟨i, j, m2, mm, rfl, rfl, hi0, hi1, hjj0, hjj1, hol2, hm2, hmx, hG, hN⟩ := hrel
        obtain ⟨na, nc, rfl⟩ := As.form0 (hN.out.get (i := 0) rfl)
        have hi00 : (0 : Int) ≤ (i : Int) := by omega
        have hj00 : (0 : Int) ≤ (j : Int) := by omega
        rcases (show (i < F + W ∧ i < n) ∨ ¬ i < F + W ∨ (i < F + W ∧ ¬ i < n) by omega) with hI | hI | hI
        · have hI1 : (i : Int) < (F : Int) + (W : Int) := by omega
          have hI2 : (i : Int) < (n : Int) := by omega
          obtain ⟨d, hdi⟩ : ∃ d, l[i]? = some d := ⟨_, List.getElem?_eq_getElem (by rw [HN.out]; exact hI.2)⟩
          have HDI := hideIt hdi
          clear hdi
          rcases (show (j < F + 2 * W ∧ j < n) ∨ ¬ j < F + 2 * W ∨ (j < F + 2 * W ∧ ¬ j < n) by omega) with hJ | hJ | hJ
          · have hJ1 : (j : Int) < (F : Int) + 2 * (W : Int) := by omega
            have hJ2 : (j : Int) < (n : Int) := by omega
            obtain ⟨d2, hdj⟩ : ∃ d, l[j]? = some d := ⟨_, List.getElem?_eq_getElem (by rw [HN.out]; exact hJ.2)⟩
            have HDJ := hideIt hdj
            clear hdj
            obtain ⟨y0, y1, y2, y3⟩ := hN.out.dnCell (i := 1) rfl HDI.out (by omega)
            obtain ⟨z0, z1, z2, z3⟩ := hN.out.dnCell (i := 1) rfl HDJ.out (by omega)
            by_cases hle : d.t ≤ d2.t
            · have HR : Hid (Mrg l W F (i + 1) j (mm ++ [d])) := by
                unfold Hid
                have h1 := hG.out
                rw [← HF.out] at h1 ⊢
                exact h1.takeI HB.out (by rw [HF.out]; omega) HDI.out (fun h2 h3 => by rw [tAt_get HDJ.out]; exact hle)
              go_wp2
              go_quiet (fail)
              have hN := hideIt (hN.out.drewN nq)
              go_wp2_with (at_builtin; refine wpList_append_lies _ rfl _ _ 56 rfl B 111 j0 (.agg #[.int .i64 0, .int .i64 0, .int .i64 0, .int .i64 0]) 4 32 Tryd.underlying56 hj0 hy0 hy1 hy2 rfl (by decide) _ m2 (dnc (out ++ mm)) rfl (World.ownsRow.alloc (hN.out.get (i := 0) rfl).own _) ⟨_, 0, none⟩ 1 1 [.int .i64 d.t, .int .i64 d.k, .int .i64 d.key, .int .i64 d.v] rfl rfl (World.news_of_block (heap_alloc_new _ _)) (by simp [Value.oneCell']) (by omega) (by unfold maxLen; omega) (by omega) (by have := hN.out.sz; simp at this ⊢; omega) _ rfl ?_; intro g1 cap1 w5 hown hgrow hat hlt1; rw [← dnc_snoc, List.append_assoc] at hown; have H1 := hideIt ((hN.out.allocd _).lies (i := 0) rfl hown hgrow hat); clear hown hgrow hat)
              go_roundw
              case rel => exact ⟨i + 1, j, m2 + 1, mm ++ [d], by go_num, rfl, by omega, by omega, by omega, by omega, by unfold Hid; rw [List.length_append, List.length_append, List.length_singleton, ← Nat.add_assoc, ← List.length_append, hol2.out], by have := hm2.out; unfold Hid; omega, by have := hm2.out; omega, HR.out, H1.out⟩
              case measure => simp [intOf]; omega
            · have HR : Hid (Mrg l W F i (j + 1) (mm ++ [d2])) := by
                unfold Hid
                have h1 := hG.out
                rw [← HF.out] at h1 ⊢
                exact h1.takeJ HB.out (by rw [HF.out]; omega) HDJ.out (fun h2 h3 => by rw [tAt_get HDI.out]; omega)
              go_wp2
              go_quiet (fail)
              have hN := hideIt (hN.out.drewN nq)
              go_wp2_with (at_builtin; refine wpList_append_lies _ rfl _ _ 56 rfl B 111 j0 (.agg #[.int .i64 0, .int .i64 0, .int .i64 0, .int .i64 0]) 4 32 Tryd.underlying56 hj0 hy0 hy1 hy2 rfl (by decide) _ m2 (dnc (out ++ mm)) rfl (World.ownsRow.alloc (hN.out.get (i := 0) rfl).own _) ⟨_, 0, none⟩ 1 1 [.int .i64 d2.t, .int .i64 d2.k, .int .i64 d2.key, .int .i64 d2.v] rfl rfl (World.news_of_block (heap_alloc_new _ _)) (by simp [Value.oneCell']) (by omega) (by unfold maxLen; omega) (by omega) (by have := hN.out.sz; simp at this ⊢; omega) _ rfl ?_; intro g1 cap1 w5 hown hgrow hat hlt1; rw [← dnc_snoc, List.append_assoc] at hown; have H1 := hideIt ((hN.out.allocd _).lies (i := 0) rfl hown hgrow hat); clear hown hgrow hat)
              go_roundw
              case rel => exact ⟨i, j + 1, m2 + 1, mm ++ [d2], rfl, by go_num, by omega, by omega, by omega, by omega, by unfold Hid; rw [List.length_append, List.length_append, List.length_singleton, ← Nat.add_assoc, ← List.length_append, hol2.out], by have := hm2.out; unfold Hid; omega, by have := hm2.out; omega, HR.out, H1.out⟩
              case measure => simp [intOf]; omega
          · have hJ1 : ¬ (j : Int) < (F : Int) + 2 * (W : Int) := by omega
            obtain ⟨y0, y1, y2, y3⟩ := hN.out.dnCell (i := 1) rfl HDI.out (by omega)
            have HR : Hid (Mrg l W F (i + 1) j (mm ++ [d])) := by
              unfold Hid
              have h1 := hG.out
              rw [← HF.out] at h1 ⊢
              exact h1.takeI HB.out (by rw [HF.out]; omega) HDI.out (fun h2 h3 => by rw [HF.out] at h2; rw [HN.out] at h3; omega)
            go_wp2_with (at_builtin; refine wpList_append_lies _ rfl _ _ 56 rfl B 111 j0 (.agg #[.int .i64 0, .int .i64 0, .int .i64 0, .int .i64 0]) 4 32 Tryd.underlying56 hj0 hy0 hy1 hy2 rfl (by decide) _ m2 (dnc (out ++ mm)) rfl (World.ownsRow.alloc (hN.out.get (i := 0) rfl).own _) ⟨_, 0, none⟩ 1 1 [.int .i64 d.t, .int .i64 d.k, .int .i64 d.key, .int .i64 d.v] rfl rfl (World.news_of_block (heap_alloc_new _ _)) (by simp [Value.oneCell']) (by omega) (by unfold maxLen; omega) (by omega) (by have := hN.out.sz; simp at this ⊢; omega) _ rfl ?_; intro g1 cap1 w5 hown hgrow hat hlt1; rw [← dnc_snoc, List.append_assoc] at hown; have H1 := hideIt ((hN.out.allocd _).lies (i := 0) rfl hown hgrow hat); clear hown hgrow hat)
            go_roundw
            case rel => exact ⟨i + 1, j, m2 + 1, mm ++ [d], by go_num, rfl, by omega, by omega, by omega, by omega, by unfold Hid; rw [List.length_append, List.length_append, List.length_singleton, ← Nat.add_assoc, ← List.length_append, hol2.out], by have := hm2.out; unfold Hid; omega, by have := hm2.out; omega, HR.out, H1.out⟩
            case measure => simp [intOf]; omega
          · have hJ1 : (j : Int) < (F : Int) + 2 * (W : Int) := by omega
            have hJ2 : ¬ (j : Int) < (n : Int) := by omega
            obtain ⟨y0, y1, y2, y3⟩ := hN.out.dnCell (i := 1) rfl HDI.out (by omega)
            have HR : Hid (Mrg l W F (i + 1) j (mm ++ [d])) := by
              unfold Hid
              have h1 := hG.out
              rw [← HF.out] at h1 ⊢
              exact h1.takeI HB.out (by rw [HF.out]; omega) HDI.out (fun h2 h3 => by rw [HF.out] at h2; rw [HN.out] at h3; omega)
            go_wp2_with (at_builtin; refine wpList_append_lies _ rfl _ _ 56 rfl B 111 j0 (.agg #[.int .i64 0, .int .i64 0, .int .i64 0, .int .i64 0]) 4 32 Tryd.underlying56 hj0 hy0 hy1 hy2 rfl (by decide) _ m2 (dnc (out ++ mm)) rfl (World.ownsRow.alloc (hN.out.get (i := 0) rfl).own _) ⟨_, 0, none⟩ 1 1 [.int .i64 d.t, .int .i64 d.k, .int .i64 d.key, .int .i64 d.v] rfl rfl (World.news_of_block (heap_alloc_new _ _)) (by simp [Value.oneCell']) (by omega) (by unfold maxLen; omega) (by omega) (by have := hN.out.sz; simp at this ⊢; omega) _ rfl ?_; intro g1 cap1 w5 hown hgrow hat hlt1; rw [← dnc_snoc, List.append_assoc] at hown; have H1 := hideIt ((hN.out.allocd _).lies (i := 0) rfl hown hgrow hat); clear hown hgrow hat)
            go_roundw
            case rel => exact ⟨i + 1, j, m2 + 1, mm ++ [d], by go_num, rfl, by omega, by omega, by omega, by omega, by unfold Hid; rw [List.length_append, List.length_append, List.length_singleton, ← Nat.add_assoc, ← List.length_append, hol2.out], by have := hm2.out; unfold Hid; omega, by have := hm2.out; omega, HR.out, H1.out⟩
            case measure => simp [intOf]; omega
        · have hI1 : ¬ (i : Int) < (F : Int) + (W : Int) := by omega
          rcases (show (j < F + 2 * W ∧ j < n) ∨ ¬ j < F + 2 * W ∨ (j < F + 2 * W ∧ ¬ j < n) by omega) with hJ | hJ | hJ
          · have hJ1 : (j : Int) < (F : Int) + 2 * (W : Int) := by omega
            have hJ2 : (j : Int) < (n : Int) := by omega
            obtain ⟨d, hdj⟩ : ∃ d, l[j]? = some d := ⟨_, List.getElem?_eq_getElem (by rw [HN.out]; exact hJ.2)⟩
            have HDJ := hideIt hdj
            clear hdj
            obtain ⟨y0, y1, y2, y3⟩ := hN.out.dnCell (i := 1) rfl HDJ.out (by omega)
            have HR : Hid (Mrg l W F i (j + 1) (mm ++ [d])) := by
              unfold Hid
              have h1 := hG.out
              rw [← HF.out] at h1 ⊢
              exact h1.takeJ HB.out (by rw [HF.out]; omega) HDJ.out (fun h2 h3 => by rw [HF.out] at h2; rw [HN.out] at h3; omega)
            go_wp2_with (at_builtin; refine wpList_append_lies _ rfl _ _ 56 rfl B 111 j0 (.agg #[.int .i64 0, .int .i64 0, .int .i64 0, .int .i64 0]) 4 32 Tryd.underlying56 hj0 hy0 hy1 hy2 rfl (by decide) _ m2 (dnc (out ++ mm)) rfl (World.ownsRow.alloc (hN.out.get (i := 0) rfl).own _) ⟨_, 0, none⟩ 1 1 [.int .i64 d.t, .int .i64 d.k, .int .i64 d.key, .int .i64 d.v] rfl rfl (World.news_of_block (heap_alloc_new _ _)) (by simp [Value.oneCell']) (by omega) (by unfold maxLen; omega) (by omega) (by have := hN.out.sz; simp at this ⊢; omega) _ rfl ?_; intro g1 cap1 w5 hown hgrow hat hlt1; rw [← dnc_snoc, List.append_assoc] at hown; have H1 := hideIt ((hN.out.allocd _).lies (i := 0) rfl hown hgrow hat); clear hown hgrow hat)
            go_roundw
            case rel => exact ⟨i, j + 1, m2 + 1, mm ++ [d], rfl, by go_num, by omega, by omega, by omega, by omega, by unfold Hid; rw [List.length_append, List.length_append, List.length_singleton, ← Nat.add_assoc, ← List.length_append, hol2.out], by have := hm2.out; unfold Hid; omega, by have := hm2.out; omega, HR.out, H1.out⟩
            case measure => simp [intOf]; omega
          · have hJ1 : ¬ (j : Int) < (F : Int) + 2 * (W : Int) := by omega
            have HS : Hid (Mds l W (q + 1) (out ++ mm)) := hD.out.step (by rw [HF.out]; exact hG.out) (by rw [HF.out, HN.out]; exact hlt) (by rw [HF.out, HN.out]; omega) (by rw [HF.out, HN.out]; omega)
            have hml : m2 ≤ n := by
              have h1 := HS.out.pm.length_eq
              rw [hol2.out, List.length_take, HN.out] at h1
              omega
            have e1 : Hid ((q + 1) * (2 * W) = F + 2 * W) := by unfold Hid; rw [Nat.add_mul, Nat.one_mul, HF.out]
            go_wp2
            go_roundw
            case rel => exact ⟨q + 1, m2, out ++ mm, by rw [e1.out]; go_num, by rw [e1.out]; omega, hol2.out, hml, HS.out, hN.out⟩
            case measure => simp [intOf]; omega
          · have hJ1 : (j : Int) < (F : Int) + 2 * (W : Int) := by omega
            have hJ2 : ¬ (j : Int) < (n : Int) := by omega
            have HS : Hid (Mds l W (q + 1) (out ++ mm)) := hD.out.step (by rw [HF.out]; exact hG.out) (by rw [HF.out, HN.out]; exact hlt) (by rw [HF.out, HN.out]; omega) (by rw [HF.out, HN.out]; omega)
            have hml : m2 ≤ n := by
              have h1 := HS.out.pm.length_eq
              rw [hol2.out, List.length_take, HN.out] at h1
              omega
            have e1 : Hid ((q + 1) * (2 * W) = F + 2 * W) := by unfold Hid; rw [Nat.add_mul, Nat.one_mul, HF.out]
            go_wp2
            go_roundw
            case rel => exact ⟨q + 1, m2, out ++ mm, by rw [e1.out]; go_num, by rw [e1.out]; omega, hol2.out, hml, HS.out, hN.out⟩
            case measure => simp [intOf]; omega
        · have hI1 : (i : Int) < (F : Int) + (W : Int) := by omega
          have hI2 : ¬ (i : Int) < (n : Int) := by omega
          rcases (show (j < F + 2 * W ∧ j < n) ∨ ¬ j < F + 2 * W ∨ (j < F + 2 * W ∧ ¬ j < n) by omega) with hJ | hJ | hJ
          · have hJ1 : (j : Int) < (F : Int) + 2 * (W : Int) := by omega
            have hJ2 : (j : Int) < (n : Int) := by omega
            exfalso
            omega
          · have hJ1 : ¬ (j : Int) < (F : Int) + 2 * (W : Int) := by omega
            have HS : Hid (Mds l W (q + 1) (out ++ mm)) := hD.out.step (by rw [HF.out]; exact hG.out) (by rw [HF.out, HN.out]; exact hlt) (by rw [HF.out, HN.out]; omega) (by rw [HF.out, HN.out]; omega)
            have hml : m2 ≤ n := by
              have h1 := HS.out.pm.length_eq
              rw [hol2.out, List.length_take, HN.out] at h1
              omega
            have e1 : Hid ((q + 1) * (2 * W) = F + 2 * W) := by unfold Hid; rw [Nat.add_mul, Nat.one_mul, HF.out]
            go_wp2
            go_roundw
            case rel => exact ⟨q + 1, m2, out ++ mm, by rw [e1.out]; go_num, by rw [e1.out]; omega, hol2.out, hml, HS.out, hN.out⟩
            case measure => simp [intOf]; omega
          · have hJ1 : (j : Int) < (F : Int) + 2 * (W : Int) := by omega
            have hJ2 : ¬ (j : Int) < (n : Int) := by omega
            have HS : Hid (Mds l W (q + 1) (out ++ mm)) := hD.out.step (by rw [HF.out]; exact hG.out) (by rw [HF.out, HN.out]; exact hlt) (by rw [HF.out, HN.out]; omega) (by rw [HF.out, HN.out]; omega)
            have hml : m2 ≤ n := by
              have h1 := HS.out.pm.length_eq
              rw [hol2.out, List.length_take, HN.out] at h1
              omega
            have e1 : Hid ((q + 1) * (2 * W) = F + 2 * W) := by unfold Hid; rw [Nat.add_mul, Nat.one_mul, HF.out]
            go_wp2
            go_roundw
            case rel => exact ⟨q + 1, m2, out ++ mm, by rw [e1.out]; go_num, by rw [e1.out]; omega, hol2.out, hml, HS.out, hN.out⟩
            case measure => simp [intOf]; omega
    · have hFn2 : ¬ (F : Int) < (n : Int) := by omega
      obtain ⟨hp, hb⟩ := hD.out.done (by rw [HN.out, HF.out]; omega)
      have HP := hideIt hp
      have HB2 := hideIt hb
      have hmn : m = n := by rw [← hol.out, ← HN.out]; exact hp.length_eq
      subst hmn
      clear hp hb
      go_wp2
      go_ret
      exact ⟨_, rfl, out, HP.out, HB2.out, hM.out⟩
end Go.Proofs.YtajobgmnmbnhiaaDoor.Sap
