/- WHAT IS PROVED HERE: whatever node and whatever two texts it is called with, saplinglaw.Packs answers true, and what it was handed reads behind the call as it did. Conditions: the row's own (the three tables of the library are laid as the program's text lays them: the card ties that). -/
import Derived.Test.YtajobgmnmbnhiaaDoorCards
import Derived.Test.YtajobgmnmbnhiaaDoorTie
import Derived.Test.YtajobgmnmbnhiaaDoorW15
import Derived.ProofKit
import Derived.OpenShut
import Derived.SizedLaws
import Derived.Deep.DeepHandedRow
import Derived.Lib.LaidTab
namespace Go.Proofs.YtajobgmnmbnhiaaDoor
open Go.ChangeShapes Go.WideShapes Go.ChangeAt Go.RowKit
open Go.ChangeMaps (open_string shut_string)
open Sap

theorem own : ownKnob Tryd.prog.godebug = none := by kernel_rfl
theorem laidOut : laidOutB Tryd.prog = true := by kernel_rfl
theorem cellsNode : Tryd.prog.cellsOf 24 = 5 := by kernel_rfl
theorem cellsInt : Tryd.prog.cellsOf 3 = 1 := by kernel_rfl
theorem cellsInts : Tryd.prog.cellsOf 22 = 1 := by kernel_rfl
theorem bytesInt : Tryd.prog.bytesOf 3 = 8 := by kernel_rfl
theorem gPowType : (Tryd.prog.globals[0]?).map (·.type) = some 166 := by kernel_rfl
theorem cellsU64 : Tryd.prog.cellsOf 158 = 1 := by kernel_rfl
theorem cellsPow : Tryd.prog.cellsOf 166 = 20 := by kernel_rfl

/-- What the row's list gives: the table of powers of ten. -/
theorem table_of {W : World} (h : laidMetH Tryd.prog Rows.packsRow.laid W) : Tab W := by
  have h1 : laidMet Tryd.prog Rows.packsRow.laid W := h
  have h2 := h1.filter (fun x => x.1 == "internal/strconv.uint64pow10")
  exact Lib.tabIs_of_head (rest := []) gPow gPowType Tryd.underlying166 Tryd.underlying158 cellsU64 cellsPow h2

/-- A slice of numbers that is handed in: its value, its numbers, its weight. -/
theorem slice_in {H : Type} {enc : TypeId × Value → H} {W : World} {base : Nat} {fuel : Nat} {c : Value} {x : DataW H × List MemPlace} {sp : Nat → Bool}
    (h : DataW.trod enc Tryd.prog W base sp true fuel 22 [c] = some x) (hsp : ∀ b, sp b = true)
    (hz : ∀ e s, x.1 = .slice e s → (e.length + s.length) * Tryd.prog.bytesOf 3 ≤ reachBytes) :
    ∃ xs : List Int, Rd W c xs ∧ Sl c ∧ xs.length * 8 ≤ 140737488351232 := by
  rcases open_ints Tryd.underlying22 Tryd.underlying3 cellsInt h with ⟨hc, hx⟩ | ⟨a, len, cap, zs, hc, -, hl, hm, hzl, hx, hcell, -⟩
  · simp only [List.cons.injEq, and_true] at hc
    subst hc
    exact ⟨[], ⟨none, 0, rfl, fun hp => by simp at hp⟩, Or.inl rfl, by simp⟩
  · simp only [List.cons.injEq, and_true] at hc
    subst hc
    rw [if_pos (hsp _)] at hzl
    have hw := hz _ _ (by rw [hx])
    rw [bytesInt] at hw
    simp only [lits, List.length_map, List.length_take, List.length_drop, reachBytes] at hw
    refine ⟨zs.take len, ⟨some a, cap, by rw [List.length_take]; congr 1; omega, fun hp => ?_⟩, Or.inr ⟨a, len, cap, rfl⟩, by rw [List.length_take]; omega⟩
    rw [List.length_take] at hp
    obtain ⟨b, off, rfl, hcc⟩ := ints_at hcell (by omega)
    refine ⟨b, off, rfl, fun j hj => ?_⟩
    rw [List.length_take] at hj
    rw [hcc j (by omega), List.getElem?_take, if_pos (by omega)]
    rfl

theorem list5 {α : Type} {l : List α} (h : l.length = 5) : ∃ a b c d e, l = [a, b, c, d, e] := by
  match l, h with
  | [a, b, c, d, e], _ => exact ⟨a, b, c, d, e, rfl⟩

set_option maxRecDepth 100000 in
theorem contract (H : Type) (enc : TypeId × Value → H) (W : World) (base : Nat) (args : Array Value) (ds gs : List (DataW H)) (before : List MemPlace)
    (hval : ∀ (j : Nat) t v, Tryd.f3.params[j]? = some t → args[j]? = some v → Value.okWide Tryd.prog W .any base t v)
    (hW : DataW.Whole enc Tryd.prog Tryd.f3.params.toList Rows.packsSpec.vars false W args.toList ds gs before)
    (hsz0 : (DataW.weightsEach Tryd.prog (Tryd.f3.params.toList ++ Rows.packsSpec.plain.varTypes Tryd.prog) (ds ++ gs)).all (· ≤ reachBytes) = true)
    (hL : laidMetH Tryd.prog Rows.packsRow.laid W) :
    Calls Tryd.prog 3 args W fun e W' => ∃ v, e = .returned v ∧ Rows.packsSpec.post enc Tryd.prog Tryd.f3 false true false false W args v W' := by
  have hW' := hW
  obtain ⟨p, q, hA0, hV, rfl, hfz, hnd⟩ := hW
  have hA : DataW.TrodAll enc Tryd.prog W 0 (fun _ => true) true Tryd.f3.params.toList args.toList ds p := hA0
  rw [Tryd.params3] at hA hval hsz0
  obtain ⟨v0, vs0, d0, ds0, p0, q0, hargs, rfl, rfl, h0, r0⟩ := trodAll_cons hA
  obtain ⟨v1, vs1, d1, ds1, p1, q1, rfl, rfl, rfl, h1, r1⟩ := trodAll_cons r0
  obtain ⟨v2, vs2, d2, ds2, p2, q2, rfl, rfl, rfl, h2, r2⟩ := trodAll_cons r1
  obtain ⟨rfl, rfl, rfl⟩ := trodAll_nil r2
  obtain rfl : args = #[v0, v1, v2] := by cases args; simp_all
  obtain ⟨rfl, rfl⟩ := trodVars_none hV
  have h0k := h0
  have h1k := h1
  have h2k := h2
  obtain ⟨s, rfl, rfl, rfl, hs⟩ := open_string Tryd.underlying9 (hval 1 9 v1 rfl rfl) h1
  obtain ⟨o, rfl, rfl, rfl, ho⟩ := open_string Tryd.underlying9 (hval 2 9 v2 rfl rfl) h2
  have hsS := sized_string hsz0 (j := 1) (t := 9) rfl rfl
  have hsO := sized_string hsz0 (j := 2) (t := 9) rfl rfl
  rw [ba_size] at hsS hsO
  simp only [reachBytes] at hsS hsO
  obtain ⟨cs, rfl, hcs⟩ := okWide_struct Tryd.underlying24 (hval 0 24 v0 rfl rfl)
  obtain ⟨fuel, hf⟩ := h0
  obtain ⟨xs, m, -, hx, hl, hlen, hfld⟩ := DataW.trod_struct Tryd.underlying24 hf
  obtain ⟨y0, y1, y2, y3, y4, rfl⟩ := list5 (l := xs) hlen
  obtain ⟨c0, c1, c2, c3, c4, hcl⟩ := list5 (l := cs.toList) (by rw [Array.length_toList, hcs, cellsNode])
  have hcs2 : cs = #[c0, c1, c2, c3, c4] := by rw [← Array.toArray_toList (xs := cs), hcl]
  subst hcs2
  have f0 : DataW.trod enc Tryd.prog W 0 (fun _ => true) true m 3 (List.take (Tryd.prog.cellsOf 3) [c0, c1, c2, c3, c4]) = some y0 := hfld 0 _ rfl
  have f1 : DataW.trod enc Tryd.prog W 0 (fun _ => true) true m 3 (List.take (Tryd.prog.cellsOf 3) [c1, c2, c3, c4]) = some y1 := hfld 1 _ rfl
  have f2 : DataW.trod enc Tryd.prog W 0 (fun _ => true) true m 3 (List.take (Tryd.prog.cellsOf 3) [c2, c3, c4]) = some y2 := hfld 2 _ rfl
  have f3 : DataW.trod enc Tryd.prog W 0 (fun _ => true) true m 22 (List.take (Tryd.prog.cellsOf 22) [c3, c4]) = some y3 := hfld 3 _ rfl
  have f4 : DataW.trod enc Tryd.prog W 0 (fun _ => true) true m 22 (List.take (Tryd.prog.cellsOf 22) [c4]) = some y4 := hfld 4 _ rfl
  rw [cellsInt] at f0 f1 f2
  rw [cellsInts] at f3 f4
  obtain ⟨lv, e0, -, -⟩ := DataW.trod_int Tryd.underlying3 f0
  obtain ⟨lk, e1, -, -⟩ := DataW.trod_int Tryd.underlying3 f1
  obtain ⟨hi, e2, -, -⟩ := DataW.trod_int Tryd.underlying3 f2
  simp only [List.take_succ_cons, List.take_zero, List.cons.injEq, and_true] at e0 e1 e2
  subst e0 e1 e2
  simp only [Prod.mk.injEq, List.map_cons, List.map_nil] at hx
  obtain ⟨rfl, hp0⟩ := hx
  have hwt : ∀ (j : Nat) (y : DataW H), [y0.1, y1.1, y2.1, y3.1, y4.1][j]? = some y → ([3, 3, 3, 22, 22] : List TypeId)[j]? = some 22 → ∀ e s, y = .slice e s → (e.length + s.length) * Tryd.prog.bytesOf 3 ≤ reachBytes := by
    intro j y hy ht e s hys
    subst hys
    have hin : (e.length + s.length) * Tryd.prog.bytesOf 3 ∈ (DataW.agg [y0.1, y1.1, y2.1, y3.1, y4.1]).weights Tryd.prog 24 := by
      simp only [DataW.weights, Tryd.underlying24]
      exact DataW.weights_mem_each ht hy _ (by simp [DataW.weights, Tryd.underlying22])
    have := List.all_eq_true.1 hsz0 _ (DataW.weights_mem_each (j := 0) rfl rfl _ hin)
    simpa using this
  obtain ⟨ks, hk, sk, hkl⟩ := slice_in f3 (fun _ => rfl) (hwt 3 _ rfl rfl)
  obtain ⟨vs, hv, sv, hvl⟩ := slice_in f4 (fun _ => rfl) (hwt 4 _ rfl rfl)
  refine (packs_walk ⟨lv, lk, hi, ks, vs⟩ c3 c4 s o W (table_of hL) hk hv sk sv hkl hvl hsS hsO).mono fun e W' ⟨he, hb⟩ => ?_
  subst he
  have hlt : ∀ x ∈ p0, x.block < W.heap.size := fun x hx => by simpa using hW'.lt x (by simp [hx])
  refine ⟨_, rfl, _, _, _, [], _, [], hW', trodAll_cons_mk (shut_bool Tryd.underlying4 _) trodAll_mk0, trodAll_cons_mk (Below.trod laidOut (by kernel_rfl) (of_decide_eq_true (by kernel_rfl)) h0k hb hlt) (trodAll_cons_mk (Below.trod laidOut (by kernel_rfl) (of_decide_eq_true (by kernel_rfl)) h1k hb (fun x hx => by cases hx)) (trodAll_cons_mk (Below.trod laidOut (by kernel_rfl) (of_decide_eq_true (by kernel_rfl)) h2k hb (fun x hx => by cases hx)) trodAll_mk0)), rfl, hb.frame _, fun h => by cases h⟩

/-- A block of cells, holding these numbers in their place. -/
def relaid (k : IntKind) (zs : List Int) : Obj → Obj
  | .cells _ t frozen => .cells ((zs.map fun z => Value.int k z).toArray) t frozen
  | o => o
def tab32 : List Int := [0, 1, 28, 2, 29, 14, 24, 3, 30, 22, 20, 15, 25, 17, 4, 8, 31, 27, 13, 23, 21, 19, 16, 7, 26, 12, 18, 6, 11, 5, 10, 9]
def tab64 : List Int := [0, 1, 56, 2, 57, 49, 28, 3, 61, 58, 42, 50, 38, 29, 17, 4, 62, 47, 59, 36, 45, 43, 51, 22, 53, 39, 33, 30, 24, 18, 12, 5, 63, 55, 48, 27, 60, 41, 37, 16, 46, 35, 44, 21, 52, 32, 23, 11, 54, 26, 40, 15, 34, 20, 31, 10, 25, 14, 19, 9, 13, 8, 7, 6]
/- The world of the witness: the settled one, the three tables holding what their initialisers lay: written out where it is wanted. -/
theorem laid_met (os : Os) (args : Array Value) : laidMet Tryd.prog Rows.packsRow.laid (({ World.holding Tryd.prog os ⟨#[], #[], []⟩ with heap := (((World.holding Tryd.prog os ⟨#[], #[], []⟩).heap.modify 0 (relaid .u64 Lib.pow10Tab)).modify 1 (relaid .u8 tab32)).modify 2 (relaid .u8 tab64) } : World).forCall (fun _ _ => 0) ⟨#[], args, []⟩).memory :=
  laidMet_of_run' 8 (by kernel_rfl) (by kernel_rfl)
theorem reads (os : Os) {H : Type} (enc : TypeId × Value → H) : ∃ places, DataW.whole enc Tryd.prog (({ World.holding Tryd.prog os ⟨#[], #[], []⟩ with heap := (((World.holding Tryd.prog os ⟨#[], #[], []⟩).heap.modify 0 (relaid .u64 Lib.pow10Tab)).modify 1 (relaid .u8 tab32)).modify 2 (relaid .u8 tab64) } : World).forCall (fun _ _ => 0) ⟨#[], #[.agg #[.int .i64 0, .int .i64 0, .int .i64 0, .slice none 0 0, .slice none 0 0], .string .empty, .string .empty], []⟩).memory Tryd.f3.params.toList Rows.packsSpec.vars false #[Value.agg #[.int .i64 0, .int .i64 0, .int .i64 0, .slice none 0 0, .slice none 0 0], .string .empty, .string .empty].toList 8 = some ([.agg [.lit (.int .i64 0), .lit (.int .i64 0), .lit (.int .i64 0), .nil, .nil], .lit (.string []), .lit (.string [])], [], places) :=
  ⟨[], by kernel_rfl⟩

set_option maxRecDepth 100000 in
theorem lifted (os : Os) (started : os.Started) (H : Type) (enc : TypeId × Value → H) (F : Stop.Interp) :
    ReturnsInHanded {} Tryd.checked os 3 .any ((OpenSpec.ofChange Rows.packsSpec).preRow enc Tryd.prog Tryd.f3 Rows.packsRow.domain false Rows.packsRow.laid) (((OpenSpec.ofChange Rows.packsSpec).at F).post enc Tryd.prog Tryd.f3 false true false false) := by
  obtain ⟨places, hx⟩ := reads os enc
  refine returnsInHanded_of_row (C := Tryd.checked) (s := OpenSpec.ofChange Rows.packsSpec) own started (by kernel_rfl) Tryd.func3
    (witness_row_at (enc := enc) (C := Tryd.checked) false ({ World.holding Tryd.prog os ⟨#[], #[], []⟩ with heap := (((World.holding Tryd.prog os ⟨#[], #[], []⟩).heap.modify 0 (relaid .u64 Lib.pow10Tab)).modify 1 (relaid .u8 tab32)).modify 2 (relaid .u8 tab64) } : World) #[.agg #[.int .i64 0, .int .i64 0, .int .i64 0, .slice none 0 0, .slice none 0 0], .string .empty, .string .empty] rfl (by kernel_rfl) (by kernel_rfl) (by kernel_rfl)
      (OpenSpec.preRow_of_cond 8 hx (by kernel_rfl) (fun k hk => by cases hk) (by kernel_rfl) (laid_met os _))) ?_
  intro W base args ds gs before hval hW _ _ hsz hL _ _
  exact contract H enc W base args ds gs before hval hW hsz hL

theorem said : Rows.PacksSaid :=
  OpenClaim.holds_of_cond 3 Tryd.f3 rfl rfl rfl rfl rfl rfl rfl ⟨rfl, rfl, rfl, rfl, rfl⟩ rfl rfl rfl rfl rfl (by kernel_rfl) Tryd.func3 (by kernel_rfl)
    (of_decide_eq_true (by kernel_rfl)) (by unfold Func.isWrapper; first | (rw [if_pos (by decide +kernel)]; kernel_rfl) | (rw [if_neg (by decide +kernel)]; exact ⟨rfl, rfl⟩))
    (fun os started H enc _ F => by rw [OpenClaim.pre_eq_preRow]; exact lifted os started H enc F)

/-- No parameter wants a stand-in; the program's own looks are off. -/
theorem plain (f : FuncId) (fn : Func) (hf : Tryd.pinned.checked.prog.funcNamed "sapling/saplinglaw.Packs" = some f) (hfn : Tryd.pinned.checked.prog.funcs[f]? = some fn) :
    false = Tryd.pinned.checked.prog.looks [] ∧ ∀ (j : Nat) t, fn.params[j]? = some t → Tryd.pinned.checked.prog.wantsStandIn t = false := by
  obtain rfl : f = 3 := Option.some.inj ((show Tryd.prog.funcNamed "sapling/saplinglaw.Packs" = some 3 by kernel_rfl).symm.trans hf) |>.symm
  obtain rfl : fn = Tryd.f3 := (Option.some.inj (Tryd.func3.symm.trans hfn)).symm
  refine ⟨by kernel_rfl, fun j t ht => ?_⟩
  rw [Tryd.params3] at ht
  have hm : t = 24 ∨ t = 9 := by simpa using Array.mem_of_getElem? ht
  rcases hm with rfl | rfl
  · exact (show Tryd.prog.wantsStandIn 24 = false by kernel_rfl)
  · exact (show Tryd.prog.wantsStandIn 9 = false by kernel_rfl)

/-- THE CARD. -/
theorem packs_card : Rows.PacksCardSaid :=
  Claim7.holds_tied_plain_at .later [] _ _ _ _ said (fun _ h => by cases h) (by kernel_rfl) (fun _ h => by cases h) packs_row_tie rfl ⟨rfl, rfl⟩ (by kernel_rfl) rfl plain (by kernel_rfl)
end Go.Proofs.YtajobgmnmbnhiaaDoor
