/- WHAT IS PROVED HERE: saplingkeep.linked sets Link and High of the nodes of a row. Conditions: each node but the first has a key; at most 200 nodes; the first page is 0 to 1000. -/
import Derived.Test.YtjpgldeeopmbgaaDoorS3
namespace Go.Proofs.YtjpgldeeopmbgaaDoor.Sap
open Go.RowKit

def Nv.lk (x : Nv) (a : Int) : Nv := { x with n := { x.n with lk := a } }
def Nv.hi (x : Nv) (a : Int) : Nv := { x with n := { x.n with hi := a } }
theorem ncells_lk (ns : List Nv) (k : Nat) (x : Nv) (a : Int) (h : ns[k]? = some x) : (ncells ns).set (k * 5 + 1) (.int .i64 a) = ncells (ns.set k (x.lk a)) := by
  induction ns generalizing k with
  | nil => simp at h
  | cons y r ih =>
    have e : ∀ z : Nv, ncells (z :: r) = z.cells ++ ncells r := fun z => by simp [ncells]
    cases k with
    | zero => simp at h; subst h; rw [List.set_cons_zero, e, e]; rfl
    | succ k =>
      have e2 : ncells (y :: r.set k (x.lk a)) = y.cells ++ ncells (r.set k (x.lk a)) := by simp [ncells]
      rw [List.set_cons_succ, e, e2, ← ih k (by simpa using h), List.set_append_right _ _ (by show 5 ≤ _; omega)]
      rw [show y.cells.length = 5 from rfl, show (k + 1) * 5 + 1 - 5 = k * 5 + 1 by omega]
theorem ncells_hi (ns : List Nv) (k : Nat) (x : Nv) (a : Int) (h : ns[k]? = some x) : (ncells ns).set (k * 5 + 2) (.int .i64 a) = ncells (ns.set k (x.hi a)) := by
  induction ns generalizing k with
  | nil => simp at h
  | cons y r ih =>
    have e : ∀ z : Nv, ncells (z :: r) = z.cells ++ ncells r := fun z => by simp [ncells]
    cases k with
    | zero => simp at h; subst h; rw [List.set_cons_zero, e, e]; rfl
    | succ k =>
      have e2 : ncells (y :: r.set k (x.hi a)) = y.cells ++ ncells (r.set k (x.hi a)) := by simp [ncells]
      rw [List.set_cons_succ, e, e2, ← ih k (by simpa using h), List.set_append_right _ _ (by show 5 ≤ _; omega)]
      rw [show y.cells.length = 5 from rfl, show (k + 1) * 5 + 2 - 5 = k * 5 + 2 by omega]
/-- One node, linked; a row whose first k nodes are linked. -/
def lkOf (ns : List Nv) (f : Int) (i : Nat) : Int := if i + 1 < ns.length then f + i + 1 else -1
def hiOf (ns : List Nv) (i : Nat) : Int := if i + 1 < ns.length then bnd ns (i + 1) else 10000
def lnk (ns : List Nv) (f : Int) (i : Nat) (x : Nv) : Nv := (x.lk (lkOf ns f i)).hi (hiOf ns i)
def linkUp (ns : List Nv) (f : Int) (k : Nat) : List Nv := ns.mapIdx fun i x => if i < k then lnk ns f i x else x
theorem linkUp_zero (ns : List Nv) (f : Int) : linkUp ns f 0 = ns := by
  apply List.ext_getElem?; intro i; simp [linkUp]
theorem linkUp_len (ns : List Nv) (f : Int) (k : Nat) : (linkUp ns f k).length = ns.length := by simp [linkUp]
theorem linkUp_at (ns : List Nv) (f : Int) (k : Nat) (x : Nv) (h : ns[k]? = some x) : (linkUp ns f k)[k]? = some x := by simp [linkUp, h]
theorem linkUp_succ (ns : List Nv) (f : Int) (k : Nat) (x : Nv) (h : ns[k]? = some x) : (linkUp ns f k).set k (lnk ns f k x) = linkUp ns f (k + 1) := by
  apply List.ext_getElem?
  intro i
  have hk : k < ns.length := (List.getElem?_eq_some_iff.1 h).1
  rw [List.getElem?_set]
  by_cases hi : k = i
  · subst hi
    have e : ns[k] = x := (List.getElem?_eq_some_iff.1 h).2
    simp [linkUp, hk, e]
  · rw [if_neg hi]
    simp only [linkUp, List.getElem?_mapIdx]
    congr 1
    funext y
    by_cases h2 : i < k
    · rw [if_pos h2, if_pos (by omega)]
    · rw [if_neg h2, if_neg (by omega)]
def linkN (ns : List Nv) (f : Int) : List Nv := linkUp ns f ns.length
theorem set_set' {α : Type} (l : List α) (i : Nat) (a b : α) : (l.set i a).set i b = l.set i b := by simp
theorem list_set_self {α : Type} {l : List α} {i : Nat} {a : α} (h : l[i]? = some a) : l.set i a = l := by
  apply List.ext_getElem?
  intro j
  rw [List.getElem?_set]
  split
  · rename_i e; subst e; rw [if_pos (List.getElem?_eq_some_iff.1 h).1, h]
  · rfl
theorem M.ne2 {w0 w : World} {B i j b g : Nat} {l : List As} {e1 e2 : TypeId} {z1 z2 n1 n2 m1 m2 c1 c2 : Nat} {xs ys : List Value} (h : M w0 B w l) (hi : l[i]? = some (.row e1 z1 (.slice (some ⟨b, 0, none⟩) m1 c1) n1 xs)) (hj : l[j]? = some (.row e2 z2 (.slice (some ⟨g, 0, none⟩) m2 c2) n2 ys)) (hij : i < j) : b ≠ g := by
  intro e
  subst e
  have hil : i < l.length := (List.getElem?_eq_some_iff.1 hi).1
  have hjl : j < l.length := (List.getElem?_eq_some_iff.1 hj).1
  have hia := (List.getElem?_eq_some_iff.1 hi).2
  have hja := (List.getElem?_eq_some_iff.1 hj).2
  have := List.pairwise_iff_getElem.1 h.apart i j hil hjl hij
  rw [hia, hja] at this
  exact this b rfl rfl
/-- Link and High of one node are stored. -/
theorem M.link2 {w0 w : World} {B ix g n cap k : Nat} {br : As} {l : List As} {cur : List Nv} {x : Nv} (h : M w0 B w (br :: l.set ix (.row 24 5 (.slice (some ⟨g, 0, none⟩) n cap) n (ncells cur)))) (hg : (br :: l.set ix (.row 24 5 (.slice (some ⟨g, 0, none⟩) n cap) n (ncells cur)))[ix + 1]? = some (.row 24 5 (.slice (some ⟨g, 0, none⟩) n cap) n (ncells cur))) (hx : cur[k]? = some x) (a b : Int) :
    M w0 B ((w.setCell ⟨g, k * 5 + 1, none⟩ (.int .i64 a)).setCell ⟨g, k * 5 + 2, none⟩ (.int .i64 b)) (br :: l.set ix (.row 24 5 (.slice (some ⟨g, 0, none⟩) n cap) n (ncells (cur.set k ((x.lk a).hi b))))) := by
  have hl : ix < l.length := by
    have := (List.getElem?_eq_some_iff.1 hg).1
    simpa using this
  have hk : k < cur.length := (List.getElem?_eq_some_iff.1 hx).1
  have s1 := h.storeRow hg (j := k * 5 + 1) (.int .i64 a)
  rw [ncells_lk _ _ _ _ hx, List.set_cons_succ, set_set'] at s1
  have s2 := s1.storeRow (i := ix + 1) (g := g) (by rw [List.getElem?_cons_succ, List.getElem?_set, if_pos rfl, if_pos hl]) (j := k * 5 + 2) (.int .i64 b)
  rw [ncells_hi (cur.set k (x.lk a)) k (x.lk a) b (by rw [List.getElem?_set, if_pos rfl, if_pos hk]), List.set_cons_succ, set_set', set_set'] at s2
  exact s2
theorem M.link4 {w0 w : World} {B ix g n cap k : Nat} {br : As} {l : List As} {cur : List Nv} {x : Nv} (h : M w0 B w (br :: l.set ix (.row 24 5 (.slice (some ⟨g, 0, none⟩) n cap) n (ncells cur)))) (hg : (br :: l.set ix (.row 24 5 (.slice (some ⟨g, 0, none⟩) n cap) n (ncells cur)))[ix + 1]? = some (.row 24 5 (.slice (some ⟨g, 0, none⟩) n cap) n (ncells cur))) (hx : cur[k]? = some x) (a b c d : Int) :
    M w0 B ((((w.setCell ⟨g, k * 5 + 1, none⟩ (.int .i64 a)).setCell ⟨g, k * 5 + 2, none⟩ (.int .i64 b)).setCell ⟨g, k * 5 + 1, none⟩ (.int .i64 c)).setCell ⟨g, k * 5 + 2, none⟩ (.int .i64 d)) (br :: l.set ix (.row 24 5 (.slice (some ⟨g, 0, none⟩) n cap) n (ncells (cur.set k ((x.lk c).hi d))))) := by
  have hl : ix < l.length := by
    have := (List.getElem?_eq_some_iff.1 hg).1
    simpa using this
  have hk : k < cur.length := (List.getElem?_eq_some_iff.1 hx).1
  have s1 := M.link2 h hg hx a b
  have s2 := M.link2 s1 (by rw [List.getElem?_cons_succ, List.getElem?_set, if_pos rfl, if_pos hl]) (x := (x.lk a).hi b) (k := k) (by rw [List.getElem?_set, if_pos rfl, if_pos hk]) c d
  rw [set_set'] at s2
  exact s2

set_option maxRecDepth 100000 in
set_option maxHeartbeats 3200000 in
theorem linked_any (v : Value) (ns : List Nv) (f : Int) (w0 : World) (B ix : Nat) (l : List As) (w : World) (h : M w0 B w l) (hx : l[ix]? = some (.row 24 5 v ns.length (ncells ns))) (hin : ∀ r ∈ nrows ns, r ∈ l)
    (hn : ns.length ≤ 200) (hne : ∀ i x, 0 < i → ns[i]? = some x → x.n.ks ≠ []) (hf0 : 0 ≤ f) (hf1 : f ≤ 1000) :
    Calls Tryd.prog 61 #[v, .int .i64 f] w fun e w' => (∃ u, e = .returned u) ∧ M w0 B w' (l.set ix (.row 24 5 v ns.length (ncells (linkN ns f)))) := by
  have hNS : NS w B v ns := h.ns (List.mem_of_getElem? hx) hin
  have CB := hideIt (bounds_any v ns B w hNS hn hne)
  have HM := hideIt h
  have HX := hideIt hx
  obtain ⟨ao, cap, rfl⟩ := As.form0 hNS.row
  obtain ⟨n, hnn⟩ : ∃ n, ns.length = n := ⟨_, rfl⟩
  have HN := hideIt hnn
  have HNS := hideIt hNS
  rw [hnn] at hn HX CB HNS ⊢
  clear h hx hin hne hNS
  rw [show linkN ns f = linkUp ns f n by unfold linkN; rw [hnn]]
  clear hnn
  go_enter Tryd.func61, Tryd.ntmps61
  go_wp2_with fail
  refine CB.out.mono ?_
  rintro e w1 ⟨bv, rfl, hb⟩
  obtain ⟨ba, bc, rfl⟩ := As.form0 (hb.get (i := 0) rfl)
  have H1 := hideIt (HM.out.join hb)
  have HB := hideIt (show Rd w1 (.slice ba n bc) (bnds ns) by have h1 : As.holds w1 w.heap.size (.row 3 1 (.slice ba n bc) n (ints (bnds ns))) := hb.get (i := 0) rfl; rw [← HN.out, ← bnds_len] at h1 ⊢; exact owns_rd h1)
  clear hb CB HM
  go_wp2
  go_loopw [5] (fun i wr => ∃ k : Nat, k ≤ n ∧ i = .int .i64 k ∧ Hid (M w0 B wr (.row 3 1 (.slice ba n bc) n (ints (bnds ns)) :: l.set ix (.row 24 5 (.slice ao n cap) n (ncells (linkUp ns f k)))))) (fun i _ => n - (intOf i).toNat)
  case atStart =>
    refine ⟨0, Nat.zero_le _, rfl, ?_⟩
    have h1 := H1.out
    rw [linkUp_zero, list_set_self HX.out]
    exact h1
  case round =>
    obtain ⟨k, hk, rfl, hM⟩ := hrel
    by_cases hlt : k < n
    · have hkk : (k : Int) < (n : Int) := by omega
      have hk0 : (0 : Int) ≤ (k : Int) := by omega
      obtain ⟨g, cap', hv⟩ := HNS.out.form' (by omega)
      cases hv
      have hgx : (.row 3 1 (.slice ba n bc) n (ints (bnds ns)) :: l.set ix (.row 24 5 (.slice (some ⟨g, 0, none⟩) n cap) n (ncells (linkUp ns f k))))[ix + 1]? = some (.row 24 5 (.slice (some ⟨g, 0, none⟩) n cap) n (ncells (linkUp ns f k))) := by
        rw [List.getElem?_cons_succ, List.getElem?_set, if_pos rfl, if_pos (List.getElem?_eq_some_iff.1 HX.out).1]
      obtain ⟨x, hx⟩ : ∃ x, ns[k]? = some x := ⟨_, List.getElem?_eq_getElem (by rw [HN.out]; exact hlt)⟩
      have hxu := linkUp_at ns f k x hx
      have hrow := hM.out.get hgx
      have c1 : wr.cell? ⟨g, k * 5 + 1, none⟩ = some (.int .i64 x.n.lk) := by rw [World.ownsRow.cellAt hrow _ (by omega), ncells_at _ _ _ (by omega), hxu]; rfl
      have c2 : wr.cell? ⟨g, k * 5 + 2, none⟩ = some (.int .i64 x.n.hi) := by rw [World.ownsRow.cellAt hrow _ (by omega), ncells_at _ _ _ (by omega), hxu]; rfl
      have f1 := World.ownsRow.frozenAt hrow (k * 5 + 1)
      have f2 := World.ownsRow.frozenAt hrow (k * 5 + 2)
      have HXU := hideIt hxu
      have HSC := hideIt (linkUp_succ ns f k x hx)
      clear hrow hx hxu
      by_cases hk1 : k + 1 < n
      · have hk2 : (k : Int) + 1 < (n : Int) := by omega
        have hk3 : (0 : Int) ≤ (k : Int) + 1 := by omega
        obtain ⟨bb, bc', hbv⟩ := As.form (hM.out.get (i := 0) rfl) (by omega)
        cases hbv
        have hbk : wr.cell? ⟨bb, k + 1, none⟩ = some (.int .i64 (bnd ns (k + 1))) := by
          rw [World.ownsRow.cellAt (hM.out.get (i := 0) rfl) _ (by omega)]
          have e := bnds_at ns (k + 1) (by rw [HN.out]; exact hk1)
          have e2 : (bnds ns)[k + 1]? = some (bnd ns (k + 1)) := by rw [List.getElem?_eq_getElem (by rw [bnds_len, HN.out]; exact hk1)] at e ⊢; simpa using e
          simp [ints, e2]
        have hne1 := hM.out.ne2 (i := 0) (j := ix + 1) rfl hgx (by omega)
        have hne2 : g ≠ bb := fun e => hne1 e.symm
        obtain ⟨bk, hbke⟩ : ∃ y, bnd ns (k + 1) = y := ⟨_, rfl⟩
        rw [hbke] at hbk
        have HL : Hid (lnk ns f k x = (x.lk (f + k + 1)).hi bk) := by unfold Hid lnk lkOf hiOf; rw [if_pos (by rw [HN.out]; exact hk1), if_pos (by rw [HN.out]; exact hk1), hbke]
        have S1 := hideIt (M.link4 hM.out hgx HXU.out (-1) 10000 (f + k + 1) bk)
        rw [HL.out] at HSC
        rw [HSC.out] at S1
        clear hgx hbke
        go_wp2
        go_roundw
        case rel => exact ⟨k + 1, by omega, by go_num, S1.out⟩
        case measure => simp [intOf]; omega
      · have hk2 : (n : Int) ≤ (k : Int) + 1 := by omega
        have HL : Hid (lnk ns f k x = (x.lk (-1)).hi 10000) := by unfold Hid lnk lkOf hiOf; rw [if_neg (by rw [HN.out]; exact hk1), if_neg (by rw [HN.out]; exact hk1)]
        have S1 := hideIt (M.link2 hM.out hgx HXU.out (-1) 10000)
        rw [HL.out] at HSC
        rw [HSC.out] at S1
        clear hgx
        go_wp2
        go_roundw
        case rel => exact ⟨k + 1, by omega, by go_num, S1.out⟩
        case measure => simp [intOf]; omega
    · obtain rfl : k = n := by omega
      go_wp2
      exact bodyPost_end (results_none Tryd.results61 _ _ _) rfl ⟨⟨_, rfl⟩, hM.out.sub (List.sublist_cons_self _ _)⟩
end Go.Proofs.YtjpgldeeopmbgaaDoor.Sap
