/- WHAT IS PROVED HERE: saplingkeep.above makes the level above a row of nodes. Conditions: 1 to 200 nodes, each but the first has a key; the sizes are ints. -/
import Derived.Test.YtajobgmnmbnhiaaDoorXS1T9
import Derived.Test.YtajobgmnmbnhiaaDoorXS2S4
namespace Go.Proofs.YtajobgmnmbnhiaaDoor.Sap
open Go.RowKit

/-- A node that has the children s to e - 1, some of them entered, the first among them. -/
structure Grp (ns : List Nv) (f lv : Int) (x : Nv) (s e : Nat) (A : List Nat) : Prop where
  lv : x.n.lv = lv + 1
  ks : x.n.ks = A.map (bnd ns)
  vs : x.n.vs = A.map fun (a : Nat) => f + (a : Int)
  hd : ∃ r, A = s :: r
  up : A.Pairwise (· < ·)
  lt : ∀ a ∈ A, a < e
/-- The nodes above the first p nodes of a row. -/
def Abv (ns : List Nv) (f lv : Int) (ms : List Nv) (p : Nat) : Prop :=
  ∃ cuts : List Nat, cuts.length = ms.length + 1 ∧ cuts[0]? = some 0 ∧ cuts[ms.length]? = some p ∧ ∀ i x, ms[i]? = some x → ∃ s e A, cuts[i]? = some s ∧ cuts[i + 1]? = some e ∧ Grp ns f lv x s e A
theorem Abv.nil (ns : List Nv) (f lv : Int) : Abv ns f lv [] 0 := ⟨[0], rfl, rfl, rfl, fun i x h => by simp at h⟩
theorem Abv.snoc {ns : List Nv} {f lv : Int} {ms : List Nv} {p q : Nat} {x : Nv} {A : List Nat} (h : Abv ns f lv ms p) (hg : Grp ns f lv x p q A) : Abv ns f lv (ms ++ [x]) q := by
  obtain ⟨cuts, h1, h2, h3, h4⟩ := h
  refine ⟨cuts ++ [q], by simp [h1], ?_, ?_, fun i y hy => ?_⟩
  · rw [List.getElem?_append_left (by omega)]; exact h2
  · rw [List.length_append, List.getElem?_append_right (by simp; omega)]; simp [h1]
  · rcases Nat.lt_or_ge i ms.length with hl | hl
    · rw [List.getElem?_append_left hl] at hy
      obtain ⟨s, e, A, c1, c2, c3⟩ := h4 i y hy
      exact ⟨s, e, A, by rw [List.getElem?_append_left (by omega)]; exact c1, by rw [List.getElem?_append_left (by omega)]; exact c2, c3⟩
    · rw [List.getElem?_append_right hl] at hy
      have hi : i = ms.length := by
        rcases Nat.lt_or_ge (i - ms.length) 1 with h' | h'
        · omega
        · rw [List.getElem?_eq_none (by simpa using h')] at hy; cases hy
      subst hi
      simp at hy
      subst hy
      exact ⟨p, q, A, by rw [List.getElem?_append_left (by omega)]; exact h3, by rw [List.getElem?_append_right (by omega)]; simp [h1], hg⟩

theorem M.push2 {w0 w : World} {B : Nat} {b k v o c : As} {l : List As} (h : M w0 B w (b :: k :: v :: o :: (l ++ [c]))) : M w0 B w (o :: ((l ++ [k, v]) ++ [c])) := by
  refine (M.push h).perm ?_
  refine List.Perm.cons _ ?_
  rw [List.append_assoc, List.append_assoc]
  exact List.Perm.append_left _ List.perm_append_comm
theorem map_snoc1 (ns : List Nv) (A : List Nat) (s : Nat) : (A ++ [s]).map (bnd ns) = A.map (bnd ns) ++ [bnd ns s] := by simp
theorem map_snoc2 (f : Int) (A : List Nat) (s : Nat) : ((A ++ [s]).map fun (a : Nat) => f + (a : Int)) = (A.map fun (a : Nat) => f + (a : Int)) ++ [f + (s : Int)] := by simp
/-- What above answers. -/
def AboveR (ns : List Nv) (f : Int) (w w' : World) (e : Ending) : Prop :=
  ∃ v ms, e = .returned v ∧ M w w.heap.size w' (.row 24 5 v ms.length (ncells ms) :: nrows ms) ∧ Abv ns f ((ns[0]?.map fun x => x.n.lv).getD 0) ms ns.length
theorem M.consNil {w0 w : World} {B : Nat} {l : List As} {e : TypeId} {z : Nat} (h : M w0 B w l) : M w0 B w (.row e z (.slice none 0 0) 0 [] :: l) :=
  (M.snocNil h).perm (by simpa using List.perm_append_comm (l₁ := [As.row e z (Value.slice none 0 0) 0 []]) (l₂ := l))
set_option maxRecDepth 100000 in
set_option maxHeartbeats 800000 in
theorem pick_big (c n : Int) (w : World) (h : I64 c) (hn1 : 1 ≤ n) (hn2 : n ≤ 1048576) :
    Calls Tryd.prog 36 #[.int .i64 c, .int .i64 n] w fun e w' => (∃ r, e = .returned (.int .i64 r) ∧ 0 ≤ r ∧ r < n) ∧ w' = w := by
  obtain ⟨h0, h1⟩ := h
  have hb := pickV_bd c n hn1
  have hnz : (n == 0) = false := by simp; omega
  have HBD := hideIt hb
  clear hb
  by_cases hc : c < 0
  · have HP : Hid (pickV c n = -(c + 1).tmod n) := by unfold Hid pickV; rw [if_pos hc, ← Int.neg_tmod, Int.tmod_eq_emod_of_nonneg (by omega)]
    go_enter Tryd.func36, Tryd.ntmps36
    go_wp2
    go_ret
    exact ⟨⟨_, ret_int HP.out.symm, HBD.out⟩, rfl⟩
  · have HP : Hid (pickV c n = c % n) := by unfold Hid pickV; rw [if_neg hc]
    go_enter Tryd.func36, Tryd.ntmps36
    go_wp2
    go_ret
    exact ⟨⟨_, ret_int HP.out.symm, HBD.out⟩, rfl⟩

end Go.Proofs.YtajobgmnmbnhiaaDoor.Sap

/- WHAT IS PROVED HERE: how an operation of saplingkeep lies in memory. Conditions: none. -/
namespace Go.Proofs.YtajobgmnmbnhiaaDoor.Sap
open Go.RowKit

theorem infoDeed : (Tryd.prog.info? 81).map (fun i => (i.zero, i.size, i.bytes)) = some (some (.pointer none), 1, 8) := by kernel_rfl
/-- The cells of an operation that is under way or has ended. -/
def DC (k key v : Int) (f : ByteArray) (tv kv : Value) (rf en : Bool) (er : Int) (fd : Bool) (va pt : Int) (ks vs cs : Value) : Array Value := #[.int .i64 k, .int .i64 key, .int .i64 v, .string f, tv, kv, .bool rf, .bool en, .int .i64 er, .bool fd, .int .i64 va, .int .i64 pt, ks, vs, cs]

theorem M.bne {w0 w : World} {B i j b g : Nat} {l : List As} {c d : Array Value} {t u : TypeId} (h : M w0 B w l) (hi : l[i]? = some (.blk b c t)) (hj : l[j]? = some (.blk g d u)) (hij : i < j) : b ≠ g := by
  intro e
  subst e
  have hil : i < l.length := (List.getElem?_eq_some_iff.1 hi).1
  have hjl : j < l.length := (List.getElem?_eq_some_iff.1 hj).1
  have hia := (List.getElem?_eq_some_iff.1 hi).2
  have hja := (List.getElem?_eq_some_iff.1 hj).2
  have := List.pairwise_iff_getElem.1 h.apart i j hil hjl hij
  rw [hia, hja] at this
  exact this b rfl rfl
end Go.Proofs.YtajobgmnmbnhiaaDoor.Sap

/- WHAT IS PROVED HERE: small laws of the account of memory, for saplingkeep's move; what Tell may answer. Conditions: none. -/
namespace Go.Proofs.YtajobgmnmbnhiaaDoor.Sap
open Go.RowKit

/-- What Tell answers: it goes on, or it has ended. -/
def Out : Type := St ⊕ (Bool × Int × Int × List Int × List Int × List (Int × Int))
def Out.on (s : St) : Out := Sum.inl s
def Out.fin (fd : Bool) (va pt : Int) (ks vs : List Int) (cs : List (Int × Int)) : Out := Sum.inr (fd, va, pt, ks, vs, cs)
theorem Out.is (o : Out) : (∃ s, o = .on s) ∨ ∃ fd va pt ks vs cs, o = .fin fd va pt ks vs cs := by
  rcases o with s | x
  · exact .inl ⟨s, rfl⟩
  · exact .inr ⟨x.1, x.2.1, x.2.2.1, x.2.2.2.1, x.2.2.2.2.1, x.2.2.2.2.2, rfl⟩
theorem Out.on_inj {s s' : St} (h : Out.on s = Out.on s') : s = s' := Sum.inl.inj h
theorem Out.on_ne {s : St} {fd : Bool} {va pt : Int} {ks vs : List Int} {cs : List (Int × Int)} (h : Out.on s = Out.fin fd va pt ks vs cs) : False := by
  cases (show (Sum.inl s : St ⊕ (Bool × Int × Int × List Int × List Int × List (Int × Int))) = Sum.inr (fd, va, pt, ks, vs, cs) from h)
theorem Out.fin_inj {fd fd' : Bool} {va pt va' pt' : Int} {ks vs ks' vs' : List Int} {cs cs' : List (Int × Int)} (h : Out.fin fd va pt ks vs cs = Out.fin fd' va' pt' ks' vs' cs') : fd = fd' ∧ va = va' ∧ pt = pt' ∧ ks = ks' ∧ vs = vs' ∧ cs = cs' := by
  have := Sum.inr.inj (show (Sum.inr (fd, va, pt, ks, vs, cs) : St ⊕ (Bool × Int × Int × List Int × List Int × List (Int × Int))) = Sum.inr (fd', va', pt', ks', vs', cs') from h)
  simp only [Prod.mk.injEq] at this
  exact this
def cutc (cs : List (Int × Int)) : List Value := cs.flatMap fun c => [.int .i64 c.1, .int .i64 c.2]
def TellR (o : Out) (w w' : World) (e : Ending) : Prop :=
  match o with
  | .inl s => ∃ c : ByteArray, e = .returned (.tuple #[.string c, .agg #[.int .i64 0, .bool false, .int .i64 0, .int .i64 0, .slice none 0 0, .slice none 0 0, .slice none 0 0], .bool false, .int .i64 0]) ∧ c.data.toList = frT s ∧ Below w.heap.size w w'
  | .inr (fd, va, pt, ks, vs, cs) => ∃ kv vv cv, e = .returned (.tuple #[.string ⟨#[]⟩, .agg #[.int .i64 0, .bool fd, .int .i64 va, .int .i64 pt, kv, vv, cv], .bool true, .int .i64 0]) ∧ M w w.heap.size w' [.row 3 1 kv ks.length (ints ks), .row 3 1 vv vs.length (ints vs), .row 142 2 cv cs.length (cutc cs)]

theorem M.rowCell {w0 w : World} {B i g n cap : Nat} {l : List As} {e : TypeId} {xs : List Value} (h : M w0 B w l) (hi : l[i]? = some (.row e 1 (.slice (some ⟨g, 0, none⟩) n cap) n xs)) (j : Nat) (v : Value) (hv : xs[j]? = some v) : w.cell? ⟨g, j, none⟩ = some v := by
  have hr := h.get hi
  have hl := hr.1
  have hj := (List.getElem?_eq_some_iff.1 hv).1
  rw [World.ownsRow.cellAt hr j (by omega)]; exact hv
theorem M.store7 {w0 w : World} {B i b : Nat} {l : List As} {c0 c1 c2 c3 c4 c5 c6 : Value} {t : TypeId} (h : M w0 B w l) (hi : l[i]? = some (.blk b #[c0, c1, c2, c3, c4, c5, c6] t)) (a0 a1 a2 a3 a4 a5 a6 : Value) :
    M w0 B (((((((w.setCell ⟨b, 0, none⟩ a0).setCell ⟨b, 1, none⟩ a1).setCell ⟨b, 2, none⟩ a2).setCell ⟨b, 3, none⟩ a3).setCell ⟨b, 4, none⟩ a4).setCell ⟨b, 5, none⟩ a5).setCell ⟨b, 6, none⟩ a6) (l.set i (.blk b #[a0, a1, a2, a3, a4, a5, a6] t)) := by
  have hl : i < l.length := (List.getElem?_eq_some_iff.1 hi).1
  have e : ∀ (a : As), (l.set i a)[i]? = some a := fun a => by rw [List.getElem?_set, if_pos rfl, if_pos hl]
  have s0 := h.store (j := 0) hi a0 (c' := #[a0, c1, c2, c3, c4, c5, c6]) rfl
  have s1 := s0.store (j := 1) (e _) a1 (c' := #[a0, a1, c2, c3, c4, c5, c6]) rfl
  rw [List.set_set] at s1
  have s2 := s1.store (j := 2) (e _) a2 (c' := #[a0, a1, a2, c3, c4, c5, c6]) rfl
  rw [List.set_set] at s2
  have s3 := s2.store (j := 3) (e _) a3 (c' := #[a0, a1, a2, a3, c4, c5, c6]) rfl
  rw [List.set_set] at s3
  have s4 := s3.store (j := 4) (e _) a4 (c' := #[a0, a1, a2, a3, a4, c5, c6]) rfl
  rw [List.set_set] at s4
  have s5 := s4.store (j := 5) (e _) a5 (c' := #[a0, a1, a2, a3, a4, a5, c6]) rfl
  rw [List.set_set] at s5
  have s6 := s5.store (j := 6) (e _) a6 (c' := #[a0, a1, a2, a3, a4, a5, a6]) rfl
  rw [List.set_set] at s6
  exact s6
theorem M.rowFree {w0 w : World} {B i g n cap : Nat} {l : List As} {e : TypeId} {xs : List Value} (h : M w0 B w l) (hi : l[i]? = some (.row e 1 (.slice (some ⟨g, 0, none⟩) n cap) n xs)) (j : Nat) : w.frozen? ⟨g, j, none⟩ = false := World.ownsRow.frozenAt (h.get hi) j
end Go.Proofs.YtajobgmnmbnhiaaDoor.Sap
