/- WHAT IS PROVED HERE: saplingkeep.sorted once more (no key comes of no number); the beginning of saplingkeep.grown. Conditions: named at each theorem. -/
import Derived.Test.YtajmiokllajcpaaDoorG1
import Derived.Test.YtajmiokllajcpaaDoorS1
import Derived.Test.YtajmiokllajcpaaDoorR2
namespace Go.Proofs.YtajmiokllajcpaaDoor.Sap
open Go.RowKit

set_option maxRecDepth 100000 in
set_option maxHeartbeats 800000 in
theorem sorted_nil (ao : Option Addr) (cap : Nat) (w : World) :
    Calls Tryd.prog 41 #[.slice ao 0 cap] w fun e w' => e = .returned (.slice none 0 0) ∧ w' = w := by
  go_enter Tryd.func41, Tryd.ntmps41
  go_wp2
  go_loopw [3, 4] (fun o i wr => o = .slice none 0 0 ∧ i = .int .i64 0 ∧ wr = w) (fun _ _ _ => 0)
  case atStart => exact ⟨rfl, rfl, rfl⟩
  case round =>
    obtain ⟨rfl, rfl, rfl⟩ := hrel
    go_wp2
    go_ret
    exact ⟨rfl, rfl⟩

theorem sorted_full (raw : Value) (rs : List Int) (w : World) (h : Rd w raw rs) (hn : rs.length ≤ 17592186044416) (hwf : ∀ x ∈ rs, I64 x) :
    Calls Tryd.prog 41 #[raw] w fun e w' => ∃ v L, e = .returned v ∧ M w w.heap.size w' [.row 3 1 v L.length (ints L)] ∧ keysOk 10000 1 L = true ∧ L.length ≤ 120 ∧ (rs = [] → L = []) := by
  by_cases h0 : rs = []
  · subst h0
    obtain ⟨ao, cap, rfl⟩ := h.len
    refine (sorted_nil ao cap w).mono ?_
    rintro e w' ⟨rfl, rfl⟩
    exact ⟨_, [], rfl, M.snocNil (M.start _), rfl, by simp, fun _ => rfl⟩
  · refine (sorted_any raw rs w h hn hwf).mono ?_
    rintro e w' ⟨v, L, rfl, ho, hk, hl, hb⟩
    refine ⟨v, L, rfl, ⟨fun a ha => ?_, List.pairwise_singleton _ _, hb, hb.size⟩, hk, hl, fun e => absurd e h0⟩
    rw [List.mem_singleton] at ha; subst ha; exact ho

/-- The world's part of the account: the world, its pages, and the table. -/
def SP (gw gt : Nat) (tv uv vv bv tk tvv : Value) (T : List ByteArray) (U : List Bool) (K V : List Int) : List As :=
  [.blk gw (WC tv uv vv (.slice none 0 0) bv 0 0 false false false false false (.slice none 0 0) (.slice none 0 0) false) 58, .row 9 1 tv 64 (strs T), .row 4 1 uv 64 (bools U), .row 3 1 vv 64 (List.replicate 64 (.int .i64 0)), .row 3 1 bv 64 (List.replicate 64 (.int .i64 (-1))), .blk gt #[tk, tvv] 88, .row 3 1 tk K.length (ints K), .row 3 1 tvv V.length (ints V)]
def Up (p0 : Nat) : List Bool := List.replicate p0 true ++ List.replicate (64 - p0) false
def T0 : List ByteArray := firstB :: List.replicate 63 ⟨#[]⟩

/-- What grown answers. -/
def GrownR (nz : Prop) (w w' : World) (e : Ending) : Prop :=
  (¬ nz ∧ e = .returned (.tuple #[.pointer none, .pointer none]) ∧ Below w.heap.size w w') ∨
  ∃ gw gt tv uv vv bv tk tvv T p0 K V, e = .returned (.tuple #[.pointer (some ⟨gw, 0, none⟩), .pointer (some ⟨gt, 0, none⟩)]) ∧ M w w.heap.size w' (SP gw gt tv uv vv bv tk tvv T (Up p0) K V) ∧ T.length = 64 ∧ p0 ≤ 64 ∧ keysOk 10000 1 K = true ∧ K.length = V.length ∧ K.length ≤ 120 ∧ ∃ rk lo, Tree T p0 (K.zip V) rk lo
theorem M.rot {w0 w : World} {B : Nat} {a b : List As} (h : M w0 B w (a ++ b)) : M w0 B w (b ++ a) := h.perm List.perm_append_comm

theorem M.nilAt {w0 w : World} {B : Nat} {a b : List As} {e : TypeId} {z : Nat} (h : M w0 B w (a ++ b)) : M w0 B w (a ++ .row e z (.slice none 0 0) 0 [] :: b) := (M.consNil h).perm List.perm_middle
theorem M.setup {w0 w : World} {B : Nat} {N FR : List As} {r g : As} (h : M w0 B w (N ++ ([r] ++ (g :: FR)))) : M w0 B w ((FR ++ [g, .row 3 1 (.slice none 0 0) 0 [], .row 3 1 (.slice none 0 0) 0 []]) ++ N) := by
  have h1 : M w0 B w (N ++ (g :: FR)) := h.sub (List.Sublist.append_left (List.sublist_cons_self _ _) _)
  have h2 : M w0 B w ((FR ++ [g]) ++ N) := h1.perm (List.perm_append_comm.trans (List.Perm.append_left _ (List.perm_append_comm (l₁ := FR) (l₂ := [g]))))
  have h3 := M.nilAt (e := 3) (z := 1) (M.nilAt (e := 3) (z := 1) h2)
  simpa using h3
theorem strs_T0 : strs T0 = .string firstB :: List.replicate 63 (.string ⟨#[]⟩) := by simp [strs, T0]
theorem bools_Up1 : bools (Up 1) = .bool true :: List.replicate 63 (.bool false) := by simp [bools, Up]
theorem lnk_rows (ns : List Nv) (f : Int) (i : Nat) (x : Nv) : (lnk ns f i x).rows = x.rows := rfl
theorem nrows_linkN (ns : List Nv) (f : Int) : nrows (linkN ns f) = nrows ns := by
  unfold nrows linkN linkUp
  rw [List.flatMap_def, List.flatMap_def]
  congr 1
  apply List.ext_getElem?
  intro i
  rw [List.getElem?_map, List.getElem?_map, List.getElem?_mapIdx]
  cases ns[i]? with
  | none => rfl
  | some x => simp only [Option.map_some]; split <;> rfl
theorem bnd_linkN (ns : List Nv) (f : Int) (i : Nat) : bnd (linkN ns f) i = bnd ns i := by
  unfold bnd
  rw [linkN_at]
  cases ns[i]? with
  | none => rfl
  | some x => rfl
theorem Abv.link {ns ms : List Nv} {f g lv : Int} {p : Nat} (h : Abv (linkN ns g) f lv ms p) : Abv ns f lv ms p := by
  obtain ⟨cuts, h1, h2, h3, h4⟩ := h
  refine ⟨cuts, h1, h2, h3, fun i x hi => ?_⟩
  obtain ⟨s, e, A, c1, c2, hg⟩ := h4 i x hi
  exact ⟨s, e, A, c1, c2, hg.lv, by rw [hg.ks, show bnd (linkN ns g) = bnd ns from funext (bnd_linkN ns g)], hg.vs, hg.hd, hg.up, hg.lt⟩
theorem abv_len {ns ms : List Nv} {f lv : Int} {p : Nat} (h : Abv ns f lv ms p) : ms.length ≤ p := by
  obtain ⟨cuts, h1, h2, h3, h4⟩ := h
  have key : ∀ (i c : Nat), i ≤ ms.length → cuts[i]? = some c → i ≤ c := by
    intro i
    induction i with
    | zero => intro c _ _; exact Nat.zero_le _
    | succ i ih =>
      intro c hi hc
      obtain ⟨s, e, A, c1, c2, hg⟩ := h4 i _ (List.getElem?_eq_getElem (show i < ms.length by omega))
      rw [hc] at c2; cases c2
      obtain ⟨r, hr⟩ := hg.hd
      have h5 := hg.lt s (by rw [hr]; simp)
      have h6 := ih s (by omega) c1
      omega
  exact key ms.length p (Nat.le_refl _) h3
theorem rising_len (A : List Nat) (s e : Nat) (hp : A.Pairwise (· < ·)) (hl : ∀ a ∈ A, s ≤ a ∧ a < e) : A.length ≤ e - s := by
  induction A generalizing s with
  | nil => simp
  | cons a r ih =>
    obtain ⟨h1, h2⟩ := List.pairwise_cons.1 hp
    have h3 := hl a (by simp)
    have h4 := ih (a + 1) h2 (fun b hb => ⟨h1 b hb, (hl b (by simp [hb])).2⟩)
    rw [List.length_cons]; omega
theorem abv_small {ns ms : List Nv} {f lv : Int} {p : Nat} (h : Abv ns f lv ms p) : ∀ x ∈ ms, x.n.ks.length ≤ p ∧ x.n.vs.length ≤ p := by
  obtain ⟨cuts, h1, h2, h3, h4⟩ := h
  intro x hx
  obtain ⟨i, hi⟩ := List.mem_iff_getElem?.1 hx
  obtain ⟨s, e, A, c1, c2, hg⟩ := h4 i x hi
  have he := cuts_le h1 h3 h4 (i + 1) e c2
  have hA := rising_len A 0 e hg.up (fun a ha => ⟨Nat.zero_le _, hg.lt a ha⟩)
  rw [hg.ks, hg.vs, List.length_map, List.length_map]; omega
theorem linkN_mem {ns : List Nv} {f : Int} {k : Nat} {x : Nv} (h : (linkN ns f)[k]? = some x) : ∃ y, ns[k]? = some y ∧ x = lnk ns f k y := by
  rw [linkN_at] at h
  cases hy : ns[k]? with
  | none => rw [hy] at h; cases h
  | some y => rw [hy] at h; exact ⟨y, rfl, (Option.some.inj h).symm⟩
theorem strs_set (T : List ByteArray) (i : Nat) (b : ByteArray) : (strs T).set i (.string b) = strs (T.set i b) := by simp [strs, List.map_set]
theorem up_set (p : Nat) (h : p < 64) : (bools (Up p)).set p (.bool true) = bools (Up (p + 1)) := by
  have e : List.replicate (64 - p) false = false :: List.replicate (64 - (p + 1)) false := by
    rw [show 64 - p = (64 - (p + 1)) + 1 by omega, List.replicate_succ]
  unfold Up bools
  rw [← List.map_set, e, List.set_append_right _ _ (by simp)]
  simp [List.replicate_succ']
theorem up_len (p : Nat) (h : p ≤ 64) : (Up p).length = 64 := by simp [Up]; omega
/-- The new level's nodes take the old one's place. -/
theorem M.level {w0 w : World} {B : Nat} {a b c : List As} (h : M w0 B w (a ++ (b ++ c))) : M w0 B w (b ++ a) := by
  have h1 : M w0 B w (a ++ b) := h.sub (List.Sublist.append_left (List.sublist_append_left _ _) _)
  exact h1.rot
theorem leaf_len {ns : List Nv} (h : LeafL ns) : ns.length ≤ (keysOf ns).length := by
  induction ns with
  | nil => exact Nat.le_refl _
  | cons x r ih =>
    have h1 := ih (fun y hy => h y (by simp [hy]))
    have h2 : 0 < x.n.ks.length := List.length_pos_iff.2 (h x (by simp)).2.1
    rw [keysOf_cons, List.length_append, List.length_cons]; omega
theorem keysOf_take (ns : List Nv) (k : Nat) (x : Nv) (h : ns[k]? = some x) : keysOf (ns.take (k + 1)) = keysOf (ns.take k) ++ x.n.ks ∧ valsOf (ns.take (k + 1)) = valsOf (ns.take k) ++ x.n.vs := by
  rw [List.take_add_one, h, Option.toList_some, keysOf_app, valsOf_app]
  exact ⟨by simp [keysOf], by simp [valsOf]⟩
end Go.Proofs.YtajmiokllajcpaaDoor.Sap
