/- WHAT IS PROVED HERE: small laws of the account of memory, for saplingkeep's move; what Tell may answer. Conditions: none. -/
import Derived.Test.YtajobgmnmbnhiaaGreatDoorXS2B2
namespace Go.Proofs.YtajobgmnmbnhiaaGreatDoor.Sap
open Go.RowKit

/-- What Tell answers: it goes on, or it has ended. -/
def Out : Type := St ⊕ (Bool × Int × Int × List Int × List Int × List (Int × Int))
def Out.on (s : St) : Out := Sum.inl s
def Out.fin (fd : Bool) (va pt : Int) (ks vs : List Int) (cs : List (Int × Int)) : Out := Sum.inr (fd, va, pt, ks, vs, cs)
theorem Out.is (o : Out) : (∃ s, o = .on s) ∨ ∃ fd va pt ks vs cs, o = .fin fd va pt ks vs cs := by
  rcases o with s | x
  · exact .inl ⟨s, rfl⟩
  · exact .inr ⟨x.1, x.2.1, x.2.2.1, x.2.2.2.1, x.2.2.2.2.1, x.2.2.2.2.2, rfl⟩
theorem Out.on_inj {s s' : St} (h : Out.on s = Out.on s') : s = s' := Sum.inl.inj h
theorem Out.on_ne {s : St} {fd : Bool} {va pt : Int} {ks vs : List Int} {cs : List (Int × Int)} (h : Out.on s = Out.fin fd va pt ks vs cs) : False := by
  cases (show (Sum.inl s : St ⊕ (Bool × Int × Int × List Int × List Int × List (Int × Int))) = Sum.inr (fd, va, pt, ks, vs, cs) from h)
theorem Out.fin_inj {fd fd' : Bool} {va pt va' pt' : Int} {ks vs ks' vs' : List Int} {cs cs' : List (Int × Int)} (h : Out.fin fd va pt ks vs cs = Out.fin fd' va' pt' ks' vs' cs') : fd = fd' ∧ va = va' ∧ pt = pt' ∧ ks = ks' ∧ vs = vs' ∧ cs = cs' := by
  have := Sum.inr.inj (show (Sum.inr (fd, va, pt, ks, vs, cs) : St ⊕ (Bool × Int × Int × List Int × List Int × List (Int × Int))) = Sum.inr (fd', va', pt', ks', vs', cs') from h)
  simp only [Prod.mk.injEq] at this
  exact this
def cutc (cs : List (Int × Int)) : List Value := cs.flatMap fun c => [.int .i64 c.1, .int .i64 c.2]
def TellR (o : Out) (w w' : World) (e : Ending) : Prop :=
  match o with
  | .inl s => ∃ c : ByteArray, e = .returned (.tuple #[.string c, .agg #[.int .i64 0, .bool false, .int .i64 0, .int .i64 0, .slice none 0 0, .slice none 0 0, .slice none 0 0], .bool false, .int .i64 0]) ∧ c.data.toList = frT s ∧ Below w.heap.size w w'
  | .inr (fd, va, pt, ks, vs, cs) => ∃ kv vv cv, e = .returned (.tuple #[.string ⟨#[]⟩, .agg #[.int .i64 0, .bool fd, .int .i64 va, .int .i64 pt, kv, vv, cv], .bool true, .int .i64 0]) ∧ M w w.heap.size w' [.row 3 1 kv ks.length (ints ks), .row 3 1 vv vs.length (ints vs), .row 76 2 cv cs.length (cutc cs)]

theorem M.rowCell {w0 w : World} {B i g n cap : Nat} {l : List As} {e : TypeId} {xs : List Value} (h : M w0 B w l) (hi : l[i]? = some (.row e 1 (.slice (some ⟨g, 0, none⟩) n cap) n xs)) (j : Nat) (v : Value) (hv : xs[j]? = some v) : w.cell? ⟨g, j, none⟩ = some v := by
  have hr := h.get hi
  have hl := hr.1
  have hj := (List.getElem?_eq_some_iff.1 hv).1
  rw [World.ownsRow.cellAt hr j (by omega)]; exact hv
theorem M.store7 {w0 w : World} {B i b : Nat} {l : List As} {c0 c1 c2 c3 c4 c5 c6 : Value} {t : TypeId} (h : M w0 B w l) (hi : l[i]? = some (.blk b #[c0, c1, c2, c3, c4, c5, c6] t)) (a0 a1 a2 a3 a4 a5 a6 : Value) :
    M w0 B (((((((w.setCell ⟨b, 0, none⟩ a0).setCell ⟨b, 1, none⟩ a1).setCell ⟨b, 2, none⟩ a2).setCell ⟨b, 3, none⟩ a3).setCell ⟨b, 4, none⟩ a4).setCell ⟨b, 5, none⟩ a5).setCell ⟨b, 6, none⟩ a6) (l.set i (.blk b #[a0, a1, a2, a3, a4, a5, a6] t)) := by
  have hl : i < l.length := (List.getElem?_eq_some_iff.1 hi).1
  have e : ∀ (a : As), (l.set i a)[i]? = some a := fun a => by rw [List.getElem?_set, if_pos rfl, if_pos hl]
  have s0 := h.store (j := 0) hi a0 (c' := #[a0, c1, c2, c3, c4, c5, c6]) rfl
  have s1 := s0.store (j := 1) (e _) a1 (c' := #[a0, a1, c2, c3, c4, c5, c6]) rfl
  rw [List.set_set] at s1
  have s2 := s1.store (j := 2) (e _) a2 (c' := #[a0, a1, a2, c3, c4, c5, c6]) rfl
  rw [List.set_set] at s2
  have s3 := s2.store (j := 3) (e _) a3 (c' := #[a0, a1, a2, a3, c4, c5, c6]) rfl
  rw [List.set_set] at s3
  have s4 := s3.store (j := 4) (e _) a4 (c' := #[a0, a1, a2, a3, a4, c5, c6]) rfl
  rw [List.set_set] at s4
  have s5 := s4.store (j := 5) (e _) a5 (c' := #[a0, a1, a2, a3, a4, a5, c6]) rfl
  rw [List.set_set] at s5
  have s6 := s5.store (j := 6) (e _) a6 (c' := #[a0, a1, a2, a3, a4, a5, a6]) rfl
  rw [List.set_set] at s6
  exact s6
theorem M.rowFree {w0 w : World} {B i g n cap : Nat} {l : List As} {e : TypeId} {xs : List Value} (h : M w0 B w l) (hi : l[i]? = some (.row e 1 (.slice (some ⟨g, 0, none⟩) n cap) n xs)) (j : Nat) : w.frozen? ⟨g, j, none⟩ = false := World.ownsRow.frozenAt (h.get hi) j
end Go.Proofs.YtajobgmnmbnhiaaGreatDoor.Sap

/- WHAT IS PROVED HERE: saplingkeep.bounds tells where each node of a row begins. Conditions: each node but the first has a key; at most 200 nodes. -/
namespace Go.Proofs.YtajobgmnmbnhiaaGreatDoor.Sap
open Go.RowKit

/-- The cells of one node among many. -/
theorem ncells_at (ns : List Nv) (i c : Nat) (hc : c < 5) : (ncells ns)[i * 5 + c]? = (ns[i]?).bind fun x => x.cells[c]? := by
  induction ns generalizing i with
  | nil => simp [ncells]
  | cons x r ih =>
    have e : ncells (x :: r) = x.cells ++ ncells r := by simp [ncells]
    have hx : x.cells.length = 5 := rfl
    rw [e]
    cases i with
    | zero => rw [List.getElem?_append_left (by omega)]; simp
    | succ i =>
      rw [List.getElem?_append_right (by omega), hx, show (i + 1) * 5 + c - 5 = i * 5 + c by omega, ih i]
      simp
theorem ncells_len (ns : List Nv) : (ncells ns).length = ns.length * 5 := by
  induction ns with
  | nil => rfl
  | cons x r ih =>
    have e : ncells (x :: r) = x.cells ++ ncells r := by simp [ncells]
    rw [e, List.length_append, ih, show x.cells.length = 5 from rfl, List.length_cons]; omega
/-- A row of nodes that is there, with all their lists. -/
structure NS (w : World) (B : Nat) (v : Value) (ns : List Nv) : Prop where
  row : As.holds w B (.row 67 5 v ns.length (ncells ns))
  rows : ∀ r ∈ nrows ns, r.holds w B
theorem M.ns {w0 w : World} {B : Nat} {l : List As} {v : Value} {ns : List Nv} (h : M w0 B w l) (h1 : .row 67 5 v ns.length (ncells ns) ∈ l) (h2 : ∀ r ∈ nrows ns, r ∈ l) : NS w B v ns := ⟨h.holds _ h1, fun r hr => h.holds r (h2 r hr)⟩
theorem NS.below {w w' : World} {B : Nat} {v : Value} {ns : List Nv} (h : NS w B v ns) (hb : Below w.heap.size w w') : NS w' B v ns :=
  ⟨h.row.kept fun k hk => hb.block k (h.row.lt hk).2, fun r hr => (h.rows r hr).kept fun k hk => hb.block k ((h.rows r hr).lt hk).2⟩
theorem NS.form {w : World} {B : Nat} {v : Value} {ns : List Nv} (h : NS w B v ns) (hn : 0 < ns.length) : ∃ g cap, v = .slice (some ⟨g, 0, none⟩) ns.length cap := As.form h.row hn
theorem NS.at {w : World} {B g cap : Nat} {ns : List Nv} (h : NS w B (.slice (some ⟨g, 0, none⟩) ns.length cap) ns) (i : Nat) (x : Nv) (hx : ns[i]? = some x) :
    (w.cell? ⟨g, i * 5, none⟩ = some (.int .i64 x.n.lv) ∧ w.cell? ⟨g, i * 5 + 1, none⟩ = some (.int .i64 x.n.lk) ∧ w.cell? ⟨g, i * 5 + 2, none⟩ = some (.int .i64 x.n.hi) ∧ w.cell? ⟨g, i * 5 + 3, none⟩ = some x.kv ∧ w.cell? ⟨g, i * 5 + 4, none⟩ = some x.vv) ∧ (∀ j, w.frozen? ⟨g, j, none⟩ = false) ∧ Rd w x.kv x.n.ks ∧ Rd w x.vv x.n.vs := by
  have hil : i < ns.length := (List.getElem?_eq_some_iff.1 hx).1
  have key : ∀ c, c < 5 → w.cell? ⟨g, i * 5 + c, none⟩ = x.cells[c]? := by
    intro c hc
    rw [World.ownsRow.cellAt h.row _ (by omega), ncells_at _ _ _ hc, hx]; rfl
  have hmem : x ∈ ns := List.mem_of_getElem? hx
  have hr : ∀ r ∈ x.rows, r.holds w B := fun r hr => h.rows r (List.mem_flatMap.2 ⟨x, hmem, hr⟩)
  refine ⟨⟨key 0 (by omega), key 1 (by omega), key 2 (by omega), key 3 (by omega), key 4 (by omega)⟩, fun j => World.ownsRow.frozenAt h.row j, ?_, ?_⟩
  · have h1 : As.holds w B (.row 3 1 x.kv x.n.ks.length (ints x.n.ks)) := hr _ (by simp [Nv.rows])
    exact owns_rd h1
  · have h1 : As.holds w B (.row 3 1 x.vv x.n.vs.length (ints x.n.vs)) := hr _ (by simp [Nv.rows])
    exact owns_rd h1

/-- Where each node begins: the first at 0, each other at its first key. -/
def bnd (ns : List Nv) (i : Nat) : Int := if i = 0 then 0 else ((ns[i]?).map fun x => x.n.ks[0]?.getD 0).getD 0
def bnds (ns : List Nv) : List Int := (List.range ns.length).map (bnd ns)
theorem bnds_len (ns : List Nv) : (bnds ns).length = ns.length := by simp [bnds]
theorem bnds_at (ns : List Nv) (i : Nat) (h : i < ns.length) : (bnds ns)[i]?.getD 0 = bnd ns i := by simp [bnds, h]
theorem bnds_snoc (ns : List Nv) (k : Nat) (h : k < ns.length) : (bnds ns).take (k + 1) = (bnds ns).take k ++ [bnd ns k] := by
  rw [List.take_add_one]; simp [bnds, h]
theorem NS.form' {w : World} {B n cap : Nat} {ao : Option Addr} {ns : List Nv} (h : NS w B (.slice ao n cap) ns) (hn : 0 < n) : ∃ g cap', (Value.slice ao n cap) = .slice (some ⟨g, 0, none⟩) n cap' := by
  rcases h.row.2 with ⟨h1, h0⟩ | ⟨g, c, cur, e, -⟩
  · cases h1; omega
  · cases e; exact ⟨g, cap, rfl⟩
theorem NS.at' {w : World} {B g n cap : Nat} {ns : List Nv} (h : NS w B (.slice (some ⟨g, 0, none⟩) n cap) ns) (i : Nat) (x : Nv) (hx : ns[i]? = some x) :
    (w.cell? ⟨g, i * 5, none⟩ = some (.int .i64 x.n.lv) ∧ w.cell? ⟨g, i * 5 + 1, none⟩ = some (.int .i64 x.n.lk) ∧ w.cell? ⟨g, i * 5 + 2, none⟩ = some (.int .i64 x.n.hi) ∧ w.cell? ⟨g, i * 5 + 3, none⟩ = some x.kv ∧ w.cell? ⟨g, i * 5 + 4, none⟩ = some x.vv) ∧ (∀ j, w.frozen? ⟨g, j, none⟩ = false) ∧ Rd w x.kv x.n.ks ∧ Rd w x.vv x.n.vs := by
  have hl : n = ns.length := by
    rcases h.row.2 with ⟨h1, h0⟩ | ⟨g, c, cur, e, -⟩
    · cases h1
    · cases e; rfl
  subst hl
  exact h.at i x hx

set_option maxRecDepth 100000 in
set_option maxHeartbeats 3200000 in
theorem bounds_any (v : Value) (ns : List Nv) (B : Nat) (w : World) (h : NS w B v ns) (hn : ns.length ≤ 200) (hne : ∀ i x, 0 < i → ns[i]? = some x → x.n.ks ≠ []) :
    Calls Tryz.prog 35 #[v] w fun e w' => ∃ bv, e = .returned bv ∧ M w w.heap.size w' [.row 3 1 bv ns.length (ints (bnds ns))] := by
  obtain ⟨i0, hi0, hz0, hz1, hz2⟩ := info_parts infoInt
  have HNS := hideIt h
  have HNE := hideIt hne
  obtain ⟨ao, cap, rfl⟩ := As.form0 h.row
  obtain ⟨n, hnn⟩ : ∃ n, ns.length = n := ⟨_, rfl⟩
  have HN := hideIt hnn
  rw [hnn] at hn HNS ⊢
  clear h hne hnn
  go_enter Tryz.func35, Tryz.ntmps35
  go_wp2
  go_loopw [3, 4] (fun o i wr => ∃ k : Nat, k ≤ n ∧ i = .int .i64 k ∧ Hid (M w w.heap.size wr [.row 3 1 o k (ints ((bnds ns).take k))])) (fun _ i _ => n - (intOf i).toNat)
  case atStart => exact ⟨0, Nat.zero_le _, rfl, M.snocNil (M.start w)⟩
  case round =>
    obtain ⟨k, hk, rfl, hM⟩ := hrel
    obtain ⟨oa, oc, rfl⟩ := As.form0 (hM.out.get (i := 0) rfl)
    by_cases hlt : k < n
    · have hkk : (k : Int) < (n : Int) := by omega
      have hk0 : (0 : Int) ≤ (k : Int) := by omega
      have HSN := hideIt (bnds_snoc ns k (by rw [HN.out]; exact hlt))
      go_upto_if 13 with fail
      go_cut [5] from 6 to 24 (fun t wx => t = .int .i64 (bnd ns k) ∧ wx = wr)
      case first =>
        by_cases hk1 : 0 < k
        · have hk2 : (0 : Int) < (k : Int) := by omega
          obtain ⟨g, cap', hv⟩ := HNS.out.form' (by omega)
          cases hv
          obtain ⟨x, hx⟩ : ∃ x, ns[k]? = some x := ⟨_, List.getElem?_eq_getElem (by rw [HN.out]; exact hlt)⟩
          have hb := hM.out.bl
          have hat := (HNS.out.below hb).at' k x hx
          obtain ⟨⟨c0, c1, c2, c3, c4⟩, cf, rk, rv⟩ := hat
          have hks := HNE.out k x hk1 hx
          obtain ⟨ka, kc, hkv⟩ := rk.len
          have hpos : 0 < x.n.ks.length := List.length_pos_iff.2 hks
          rw [hkv] at rk c3
          obtain ⟨kb, ko, rfl, -, kx⟩ := rk.elem 0 hpos
          have y1 := kx wr (Below.refl _ _)
          rw [Nat.add_zero] at y1
          have hp2 : (0 : Int) < (x.n.ks.length : Int) := by omega
          have HB : Hid (bnd ns k = x.n.ks[0]?.getD 0) := by unfold Hid bnd; rw [if_neg (by omega), hx]; rfl
          obtain ⟨fk, hfk⟩ : ∃ y, x.n.ks[0]?.getD 0 = y := ⟨_, rfl⟩
          rw [hfk] at y1 HB
          clear hfk hx hkv rk rv kx c0 c1 c2 c4 hks
          go_wp2
          go_meet
          case rel => exact ⟨by rw [HB.out], rfl⟩
        · have hk0 : k = 0 := by omega
          subst hk0
          go_wp2
          go_meet
          case rel => exact ⟨rfl, rfl⟩
      case rest =>
        obtain ⟨rfl, rfl⟩ := hcut
        go_wp2_with (at_builtin; refine wpList_append_lies _ rfl _ _ 22 rfl w.heap.size 3 i0 (.int .i64 0) 1 8 Tryz.underlying22 hi0 hz0 hz1 hz2 rfl (by decide) _ k (ints ((bnds ns).take k)) rfl (World.ownsRow.alloc (hM.out.get (i := 0) rfl) _) ⟨_, 0, none⟩ 1 1 [.int .i64 (bnd ns k)] rfl rfl (news_one _ _ _) (by simp [Value.oneCell']) (by omega) (by unfold maxLen; omega) (by omega) (by have := hM.out.sz; simp at this ⊢; omega) _ rfl ?_; intro g cap w1 hown hgrow hat hlt1; rw [← ints_snoc, ← HSN.out] at hown; have H1 := hideIt ((hM.out.allocd _).lies (i := 0) rfl hown hgrow hat); clear hown hgrow hat)
        go_roundw
        case rel => exact ⟨k + 1, by omega, by go_num, H1.out⟩
        case measure => simp [intOf]; omega
    · obtain rfl : k = n := by omega
      go_wp2
      go_ret
      refine ⟨_, rfl, ?_⟩
      have h1 := hM.out
      rw [List.take_of_length_le (by rw [bnds_len, HN.out]; exact Nat.le_refl _)] at h1
      exact h1
end Go.Proofs.YtajobgmnmbnhiaaGreatDoor.Sap
