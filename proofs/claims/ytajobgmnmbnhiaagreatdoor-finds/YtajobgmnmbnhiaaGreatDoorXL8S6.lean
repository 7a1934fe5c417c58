/- WHAT IS PROVED HERE: what tree.Tell answers to the text of a page that a frame wants to read: what tree.tellRead answers. Conditions: named at each theorem. -/
import Derived.Test.YtajobgmnmbnhiaaGreatDoorXR2S0
import Derived.Test.YtajobgmnmbnhiaaGreatDoorXB1S1
import Derived.Test.YtajobgmnmbnhiaaGreatDoorXG1D1
import Derived.Test.YtajobgmnmbnhiaaGreatDoorXL6L7
namespace Go.Proofs.YtajobgmnmbnhiaaGreatDoor.Sap
open Go.RowKit

/-- What an operation comes to with an access: its next state, or its end. -/
def Res : Type := St ⊕ (Int × Bool × Int × Int × List Int × List Int × List (Int × Int))
def Res.on (s : St) : Res := Sum.inl s
def Res.fin (er : Int) (fd : Bool) (va pt : Int) (ks vs : List Int) (cs : List (Int × Int)) : Res := Sum.inr (er, fd, va, pt, ks, vs, cs)
theorem Res.is (o : Res) : (∃ s, o = .on s) ∨ ∃ er fd va pt ks vs cs, o = .fin er fd va pt ks vs cs := by
  rcases o with s | ⟨er, fd, va, pt, ks, vs, cs⟩
  · exact Or.inl ⟨s, rfl⟩
  · exact Or.inr ⟨er, fd, va, pt, ks, vs, cs, rfl⟩
def ResM (o : Res) (w0 : World) (B : Nat) (w' : World) (fr : List As) (e : Ending) : Prop :=
  match o with
  | .inl s' => OnR s' e ∧ M w0 B w' fr
  | .inr (er, fd, va, pt, ks, vs, cs) => ∃ kv' vv' cv', e = .returned (.tuple #[.string ⟨#[]⟩, .agg #[.int .i64 er, .bool fd, .int .i64 va, .int .i64 pt, kv', vv', cv'], .bool true, .int .i64 0]) ∧ M w0 B w' (.row 3 1 kv' ks.length (ints ks) :: .row 3 1 vv' vs.length (ints vs) :: .row 76 2 cv' cs.length (cutc cs) :: fr)

set_option maxRecDepth 100000 in
set_option maxHeartbeats 6400000 in
theorem tell_pass (s : St) (f t : ByteArray) (ver : Int) (o : Res) (w : World) (hf : f.data.toList = frT s) (hs : StOk s) (hsw : s.sw = ⟨#[]⟩)
    (hC : ∀ kv vv bv pv xv yv fr W, M w w.heap.size W (.row 3 1 kv s.keys.length (ints s.keys) :: .row 3 1 vv s.vals.length (ints s.vals) :: .row 3 1 bv s.bel.length (ints s.bel) :: .row 3 1 pv s.pts.length (ints s.pts) :: .row 3 1 xv s.sp.length (ints s.sp) :: .row 3 1 yv s.sv.length (ints s.sv) :: fr) → Calls Tryz.prog 68 #[.agg #[.int .i64 s.kd, .int .i64 s.key, .int .i64 s.val, .int .i64 s.step, .int .i64 s.pg, kv, vv, bv, pv, .string s.sw, .int .i64 s.ver, xv, yv, .int .i64 s.laid, .int .i64 s.lv, .int .i64 s.low, .int .i64 s.ch, .int .i64 s.pt], .agg #[.int .i64 ver, .int .i64 0, .string t, .bool false]] W fun e w' => ResM o w w.heap.size w' fr e) :
    Calls Tryz.prog 47 #[.string f, .agg #[.int .i64 ver, .int .i64 0, .string t, .bool false]] w fun e w' => ResM o w w.heap.size w' [] e := by
  have A0 := hideIt (((M.start w).alloc #[.int .i64 ver, .int .i64 0, .string t, .bool false] 99).alloc #[.int .i64 0, .bool false, .int .i64 0, .int .i64 0, .slice none 0 0, .slice none 0 0, .slice none 0 0] 46)
  rw [alloc_size] at A0
  have CR := hideIt (fun W => readFrame_yes s f W hf hs)
  have HC := hideIt hC
  have hsb : s.sw.toList.isEmpty = true := by rw [hsw, ByteArray.toList_eq]; rfl
  clear hf hs hC hsw
  go_enter Tryz.func47, Tryz.ntmps47
  go_wp2_with fail
  refine (CR.out _).mono ?_
  rintro e w1 ⟨⟨kv, vv, bv, pv, xv, yv, hO, rfl⟩, hb⟩
  have A1 := A0.out.join (hO.m hb)
  clear hO hb CR
  obtain ⟨ak, ck, rfl⟩ := As.form0 (A1.get (i := 0) rfl)
  obtain ⟨av, cv, rfl⟩ := As.form0 (A1.get (i := 1) rfl)
  obtain ⟨ab, cb, rfl⟩ := As.form0 (A1.get (i := 2) rfl)
  obtain ⟨ap, cp, rfl⟩ := As.form0 (A1.get (i := 3) rfl)
  obtain ⟨ax, cx, rfl⟩ := As.form0 (A1.get (i := 4) rfl)
  obtain ⟨ay, cy, rfl⟩ := As.form0 (A1.get (i := 5) rfl)
  have A2 := hideIt (A1.alloc #[.int .i64 s.kd, .int .i64 s.key, .int .i64 s.val, .int .i64 s.step, .int .i64 s.pg, .slice ak s.keys.length ck, .slice av s.vals.length cv, .slice ab s.bel.length cb, .slice ap s.pts.length cp, .string s.sw, .int .i64 s.ver, .slice ax s.sp.length cx, .slice ay s.sv.length cy, .int .i64 s.laid, .int .i64 s.lv, .int .i64 s.low, .int .i64 s.ch, .int .i64 s.pt] 92)
  clear A0 A1
  have q9 := A2.out.cell (i := 0) rfl 9 (.string s.sw) rfl
  have rt0 := A2.out.cell (i := 8) rfl 0 (.int .i64 ver) rfl
  have rt1 := A2.out.cell (i := 8) rfl 1 (.int .i64 0) rfl
  have rt2 := A2.out.cell (i := 8) rfl 2 (.string t) rfl
  have rt3 := A2.out.cell (i := 8) rfl 3 (.bool false) rfl
  have A3 := A2.out.mvAt (pre := []) (a := [_]) (b := [_, _, _, _, _, _])
  simp only [List.nil_append, List.cons_append] at A3
  have HCC := hideIt (HC.out _ _ _ _ _ _ _ _ A3)
  clear HC A3
  rcases o.is with ⟨s', rfl⟩ | ⟨er, fd, va, pt, ks, vs, cs, rfl⟩
  · go_wp2_with (refine wpList_load_row rfl 92 _ rfl _ rfl 92 _ (0, 0) _ (A2.out.block (i := 0) rfl) Tryz.underlying92 rfl infoState ?_)
    refine HCC.out.mono ?_
    rintro e w5 ⟨⟨c5, rfl, hc5⟩, hM5⟩
    have A7 := hideIt hM5
    have HC5 := hideIt hc5
    clear hc5 hM5 A2 HCC q9 rt0 rt1 rt2 rt3
    have r0 := A7.out.cell (i := 1) rfl 0 (.int .i64 0) rfl
    have f0 := A7.out.free (i := 1) rfl 0
    have r1 := A7.out.cell (i := 1) rfl 1 (.bool false) rfl
    have f1 := A7.out.free (i := 1) rfl 1
    have r2 := A7.out.cell (i := 1) rfl 2 (.int .i64 0) rfl
    have f2 := A7.out.free (i := 1) rfl 2
    have r3 := A7.out.cell (i := 1) rfl 3 (.int .i64 0) rfl
    have f3 := A7.out.free (i := 1) rfl 3
    have r4 := A7.out.cell (i := 1) rfl 4 (.slice none 0 0) rfl
    have f4 := A7.out.free (i := 1) rfl 4
    have r5 := A7.out.cell (i := 1) rfl 5 (.slice none 0 0) rfl
    have f5 := A7.out.free (i := 1) rfl 5
    have r6 := A7.out.cell (i := 1) rfl 6 (.slice none 0 0) rfl
    have f6 := A7.out.free (i := 1) rfl 6
    have S7 := hideIt (A7.out.store7 (i := 1) rfl (.int .i64 0) (.bool false) (.int .i64 0) (.int .i64 0) (.slice none 0 0) (.slice none 0 0) (.slice none 0 0))
    clear A7
    rw [show ans0 = #[.int .i64 0, .bool false, .int .i64 0, .int .i64 0, .slice none 0 0, .slice none 0 0, .slice none 0 0] from rfl]
    go_wp2
    refine bodyPost_ret (v := .tuple #[.string c5, .agg #[.int .i64 0, .bool false, .int .i64 0, .int .i64 0, .slice none 0 0, .slice none 0 0, .slice none 0 0], .bool false, .int .i64 0]) (by simp [results, Tryz.results47, go_sem, *]) rfl ?_
    exact ⟨⟨c5, rfl, HC5.out⟩, S7.out.sub (List.nil_sublist _)⟩
  · go_wp2_with (refine wpList_load_row rfl 92 _ rfl _ rfl 92 _ (0, 0) _ (A2.out.block (i := 0) rfl) Tryz.underlying92 rfl infoState ?_)
    refine HCC.out.mono ?_
    rintro e w5 ⟨kv5, vv5, cv5, rfl, hM5⟩
    obtain ⟨a5, b5, rfl⟩ := As.form0 (hM5.get (i := 0) rfl)
    obtain ⟨a6, b6, rfl⟩ := As.form0 (hM5.get (i := 1) rfl)
    obtain ⟨a7, b7, rfl⟩ := As.form0 (hM5.get (i := 2) rfl)
    have A7 := hideIt hM5
    clear hM5 A2 HCC q9 rt0 rt1 rt2 rt3
    have r0 := A7.out.cell (i := 4) rfl 0 (.int .i64 0) rfl
    have f0 := A7.out.free (i := 4) rfl 0
    have r1 := A7.out.cell (i := 4) rfl 1 (.bool false) rfl
    have f1 := A7.out.free (i := 4) rfl 1
    have r2 := A7.out.cell (i := 4) rfl 2 (.int .i64 0) rfl
    have f2 := A7.out.free (i := 4) rfl 2
    have r3 := A7.out.cell (i := 4) rfl 3 (.int .i64 0) rfl
    have f3 := A7.out.free (i := 4) rfl 3
    have r4 := A7.out.cell (i := 4) rfl 4 (.slice none 0 0) rfl
    have f4 := A7.out.free (i := 4) rfl 4
    have r5 := A7.out.cell (i := 4) rfl 5 (.slice none 0 0) rfl
    have f5 := A7.out.free (i := 4) rfl 5
    have r6 := A7.out.cell (i := 4) rfl 6 (.slice none 0 0) rfl
    have f6 := A7.out.free (i := 4) rfl 6
    have S7 := hideIt (A7.out.store7 (i := 4) rfl (.int .i64 er) (.bool fd) (.int .i64 va) (.int .i64 pt) (.slice a5 ks.length b5) (.slice a6 vs.length b6) (.slice a7 cs.length b7))
    clear A7
    go_wp2
    refine bodyPost_ret (v := .tuple #[.string ⟨#[]⟩, .agg #[.int .i64 er, .bool fd, .int .i64 va, .int .i64 pt, .slice a5 ks.length b5, .slice a6 vs.length b6, .slice a7 cs.length b7], .bool true, .int .i64 0]) (by simp [results, Tryz.results47, go_sem, *]) rfl ?_
    exact ⟨_, _, _, rfl, S7.out.sub (.cons_cons _ (.cons_cons _ (.cons_cons _ (List.nil_sublist _))))⟩

/-- A way that leads on. -/
theorem tell_on (s : St) (n : Nd) (f t : ByteArray) (ver : Int) (w : World) (htab : Tab w) (hf : f.data.toList = frT s) (hs : StOk s) (hu : Unp t.data.toList n) (hsw : s.sw = ⟨#[]⟩) (hgo : rdGo s n) (hst1 : s.step ≤ 1000000000) (hnx : 0 ≤ onwV n (wantV s)) (hI : StI { s with pg := onwV n (wantV s), step := s.step + 1 }) :
    Calls Tryz.prog 47 #[.string f, .agg #[.int .i64 ver, .int .i64 0, .string t, .bool false]] w fun e w' => ResM (.on { s with pg := onwV n (wantV s), step := s.step + 1 }) w w.heap.size w' [] e :=
  tell_pass s f t ver _ w hf hs hsw fun kv vv bv pv xv yv fr W hM => tellRead_on s n kv vv bv pv xv yv t ver fr w W _ htab rfl hs hu hgo hst1 hnx hI hM
theorem tell_get (s : St) (n : Nd) (f t : ByteArray) (ver : Int) (w : World) (htab : Tab w) (hf : f.data.toList = frT s) (hs : StOk s) (hu : Unp t.data.toList n) (hsw : s.sw = ⟨#[]⟩) (hgo : ¬ rdGo s n) (hk1 : s.kd = 1) :
    Calls Tryz.prog 47 #[.string f, .agg #[.int .i64 ver, .int .i64 0, .string t, .bool false]] w fun e w' => ResM (.fin 0 (fndB n.ks s.key n.ks.length) (fndV n.ks n.vs s.key n.ks.length) s.step [] [] []) w w.heap.size w' [] e :=
  tell_pass s f t ver _ w hf hs hsw fun kv vv bv pv xv yv fr W hM => (tellRead_get s n kv vv bv pv xv yv t ver fr w W _ htab rfl hs hu hgo hk1 hM).mono fun _ _ ⟨he, hM'⟩ => ⟨_, _, _, he, M.consNil (M.consNil (M.consNil hM'))⟩
def Out.res : Out → Res
  | .inl s => .inl s
  | .inr r => .inr (0, r)
theorem ScR.res {o : Out} {w0 w' : World} {B : Nat} {fr : List As} {e : Ending} (h : ScR o w0 B w' fr e) : ResM o.res w0 B w' fr e := by
  cases o with
  | inl s' => exact h
  | inr r => exact h
theorem tell_scan (s : St) (n : Nd) (f t : ByteArray) (ver : Int) (w : World) (htab : Tab w) (hf : f.data.toList = frT s) (hs : StOk s) (hu : Unp t.data.toList n) (hsw : s.sw = ⟨#[]⟩) (hgo : ¬ rdGo s n) (hk4 : s.kd = 4) (hst1 : s.step ≤ 1000000) (hb63 : s.bel.length ≤ 63) (hsk : ∀ x ∈ s.keys, 0 ≤ x ∧ x ≤ 10000) (hlk : scEnd s n = false → 0 ≤ n.lk ∧ StI { scS s n with pg := n.lk, step := s.step + 1 }) :
    Calls Tryz.prog 47 #[.string f, .agg #[.int .i64 ver, .int .i64 0, .string t, .bool false]] w fun e w' => ResM (scO s n).res w w.heap.size w' [] e :=
  tell_pass s f t ver _ w hf hs hsw fun kv vv bv pv xv yv fr W hM => (tellRead_scan s n kv vv bv pv xv yv t ver fr w W _ htab rfl hs hu hgo hk4 hst1 hb63 hsk hlk hM).mono fun _ _ h => h.res
theorem ResM.tell {o : Out} {w w' : World} {e : Ending} (h : ResM o.res w w.heap.size w' [] e) : TellR o w w' e := by
  cases o with
  | inl s' => obtain ⟨⟨c, rfl, hc⟩, hM⟩ := h; exact ⟨c, rfl, hc, hM.bl⟩
  | inr r => exact h
/-- A Get or a Scan is told the text of a page. -/
theorem tell_any (s : St) (n : Nd) (f t : ByteArray) (ver : Int) (w : World) (htab : Tab w) (hf : f.data.toList = frT s) (hs : StOk s) (hu : Unp t.data.toList n) (hok : TellOk s n) (hsw : s.sw = ⟨#[]⟩) (hk14 : s.kd = 1 ∨ s.kd = 4) :
    Calls Tryz.prog 47 #[.string f, .agg #[.int .i64 ver, .int .i64 0, .string t, .bool false]] w fun e w' => TellR (tlO s n) w w' e := by
  have hlv : s.lv = 0 := by rcases hs.ent with h | h; exact h.1; exact absurd h.2.2.1 (by omega)
  have hn0 := (right_bd n hu.1).1
  by_cases hgo : n.lv ≠ 0 ∨ n.hi ≤ wantV s
  · have ho : tlO s n = .on { s with pg := onwV n (wantV s), step := s.step + 1 } := by unfold tlO; rw [if_pos hgo]
    have h9 := hok.on _ ho
    rw [ho]
    exact (tell_on s n f t ver w htab hf hs hu hsw (by rcases hgo with h | h; exact Or.inl (by omega); exact Or.inr h) (by have := hok.step; omega) h9.1 h9.2).mono fun _ _ h => ResM.tell (o := .on _) h
  · have hng : ¬ rdGo s n := fun h => hgo (by rcases h with h | h; exact Or.inl (by omega); exact Or.inr h)
    rcases hk14 with hk | hk
    · have ho : tlO s n = .fin (fndB n.ks s.key n.ks.length) (fndV n.ks n.vs s.key n.ks.length) s.step [] [] [] := by unfold tlO; rw [if_neg hgo, if_neg (by omega)]
      rw [ho]
      exact (tell_get s n f t ver w htab hf hs hu hsw hng hk).mono fun _ _ h => ResM.tell (o := .fin _ _ _ _ _ _) h
    · have ho : tlO s n = scO s n := by unfold tlO; rw [if_neg hgo, if_pos hk]
      rw [ho]
      exact (tell_scan s n f t ver w htab hf hs hu hsw hng hk hok.step hok.bel hok.keys fun he => hok.on _ (ho.trans (by unfold scO; rw [he]; rfl))).mono fun _ _ h => h.tell
end Go.Proofs.YtajobgmnmbnhiaaGreatDoor.Sap

/- WHAT IS PROVED HERE: saplingkeep.sorted once more (no key comes of no number); the beginning of saplingkeep.grown. Conditions: named at each theorem. -/
namespace Go.Proofs.YtajobgmnmbnhiaaGreatDoor.Sap
open Go.RowKit

set_option maxRecDepth 100000 in
set_option maxHeartbeats 800000 in
theorem sorted_nil (ao : Option Addr) (cap : Nat) (w : World) :
    Calls Tryz.prog 22 #[.slice ao 0 cap] w fun e w' => e = .returned (.slice none 0 0) ∧ w' = w := by
  go_enter Tryz.func22, Tryz.ntmps22
  go_wp2
  go_loopw [3, 4] (fun o i wr => o = .slice none 0 0 ∧ i = .int .i64 0 ∧ wr = w) (fun _ _ _ => 0)
  case atStart => exact ⟨rfl, rfl, rfl⟩
  case round =>
    obtain ⟨rfl, rfl, rfl⟩ := hrel
    go_wp2
    go_ret
    exact ⟨rfl, rfl⟩

theorem sorted_full (raw : Value) (rs : List Int) (w : World) (h : Rd w raw rs) (hn : rs.length ≤ 17592186044416) (hwf : ∀ x ∈ rs, I64 x) :
    Calls Tryz.prog 22 #[raw] w fun e w' => ∃ v L, e = .returned v ∧ M w w.heap.size w' [.row 3 1 v L.length (ints L)] ∧ keysOk 10000 1 L = true ∧ L.length ≤ 120 ∧ (rs = [] → L = []) := by
  by_cases h0 : rs = []
  · subst h0
    obtain ⟨ao, cap, rfl⟩ := h.len
    refine (sorted_nil ao cap w).mono ?_
    rintro e w' ⟨rfl, rfl⟩
    exact ⟨_, [], rfl, M.snocNil (M.start _), rfl, by simp, fun _ => rfl⟩
  · refine (sorted_any raw rs w h hn hwf).mono ?_
    rintro e w' ⟨v, L, rfl, ho, hk, hl, hb⟩
    refine ⟨v, L, rfl, ⟨fun a ha => ?_, List.pairwise_singleton _ _, hb, hb.size⟩, hk, hl, fun e => absurd e h0⟩
    rw [List.mem_singleton] at ha; subst ha; exact ho

/-- The world's part of the account: the world, its pages, and the table. -/
def SP (gw gt : Nat) (tv uv vv bv tk tvv : Value) (T : List ByteArray) (U : List Bool) (K V : List Int) : List As :=
  [.blk gw (WC tv uv vv (.slice none 0 0) bv 0 0 false false false false false (.slice none 0 0) (.slice none 0 0) false) 34, .row 9 1 tv 64 (strs T), .row 4 1 uv 64 (bools U), .row 3 1 vv 64 (List.replicate 64 (.int .i64 0)), .row 3 1 bv 64 (List.replicate 64 (.int .i64 (-1))), .blk gt #[tk, tvv] 55, .row 3 1 tk K.length (ints K), .row 3 1 tvv V.length (ints V)]
def Up (p0 : Nat) : List Bool := List.replicate p0 true ++ List.replicate (64 - p0) false
def T0 : List ByteArray := firstB :: List.replicate 63 ⟨#[]⟩

/-- What grown answers. -/
def GrownR (nz : Prop) (w w' : World) (e : Ending) : Prop :=
  (¬ nz ∧ e = .returned (.tuple #[.pointer none, .pointer none]) ∧ Below w.heap.size w w') ∨
  ∃ gw gt tv uv vv bv tk tvv T p0 K V, e = .returned (.tuple #[.pointer (some ⟨gw, 0, none⟩), .pointer (some ⟨gt, 0, none⟩)]) ∧ M w w.heap.size w' (SP gw gt tv uv vv bv tk tvv T (Up p0) K V) ∧ T.length = 64 ∧ p0 ≤ 64 ∧ keysOk 10000 1 K = true ∧ K.length = V.length ∧ K.length ≤ 120 ∧ ∃ rk lo, Tree T p0 (K.zip V) rk lo
theorem M.rot {w0 w : World} {B : Nat} {a b : List As} (h : M w0 B w (a ++ b)) : M w0 B w (b ++ a) := h.perm List.perm_append_comm

theorem M.nilAt {w0 w : World} {B : Nat} {a b : List As} {e : TypeId} {z : Nat} (h : M w0 B w (a ++ b)) : M w0 B w (a ++ .row e z (.slice none 0 0) 0 [] :: b) := (M.consNil h).perm List.perm_middle
theorem M.setup {w0 w : World} {B : Nat} {N FR : List As} {r g : As} (h : M w0 B w (N ++ ([r] ++ (g :: FR)))) : M w0 B w ((FR ++ [g, .row 3 1 (.slice none 0 0) 0 [], .row 3 1 (.slice none 0 0) 0 []]) ++ N) := by
  have h1 : M w0 B w (N ++ (g :: FR)) := h.sub (List.Sublist.append_left (List.sublist_cons_self _ _) _)
  have h2 : M w0 B w ((FR ++ [g]) ++ N) := h1.perm (List.perm_append_comm.trans (List.Perm.append_left _ (List.perm_append_comm (l₁ := FR) (l₂ := [g]))))
  have h3 := M.nilAt (e := 3) (z := 1) (M.nilAt (e := 3) (z := 1) h2)
  simpa using h3
theorem strs_T0 : strs T0 = .string firstB :: List.replicate 63 (.string ⟨#[]⟩) := by simp [strs, T0]
theorem bools_Up1 : bools (Up 1) = .bool true :: List.replicate 63 (.bool false) := by simp [bools, Up]
theorem lnk_rows (ns : List Nv) (f : Int) (i : Nat) (x : Nv) : (lnk ns f i x).rows = x.rows := rfl
theorem nrows_linkN (ns : List Nv) (f : Int) : nrows (linkN ns f) = nrows ns := by
  unfold nrows linkN linkUp
  rw [List.flatMap_def, List.flatMap_def]
  congr 1
  apply List.ext_getElem?
  intro i
  rw [List.getElem?_map, List.getElem?_map, List.getElem?_mapIdx]
  cases ns[i]? with
  | none => rfl
  | some x => simp only [Option.map_some]; split <;> rfl
theorem bnd_linkN (ns : List Nv) (f : Int) (i : Nat) : bnd (linkN ns f) i = bnd ns i := by
  unfold bnd
  rw [linkN_at]
  cases ns[i]? with
  | none => rfl
  | some x => rfl
theorem Abv.link {ns ms : List Nv} {f g lv : Int} {p : Nat} (h : Abv (linkN ns g) f lv ms p) : Abv ns f lv ms p := by
  obtain ⟨cuts, h1, h2, h3, h4⟩ := h
  refine ⟨cuts, h1, h2, h3, fun i x hi => ?_⟩
  obtain ⟨s, e, A, c1, c2, hg⟩ := h4 i x hi
  exact ⟨s, e, A, c1, c2, hg.lv, by rw [hg.ks, show bnd (linkN ns g) = bnd ns from funext (bnd_linkN ns g)], hg.vs, hg.hd, hg.up, hg.lt⟩
theorem abv_len {ns ms : List Nv} {f lv : Int} {p : Nat} (h : Abv ns f lv ms p) : ms.length ≤ p := by
  obtain ⟨cuts, h1, h2, h3, h4⟩ := h
  have key : ∀ (i c : Nat), i ≤ ms.length → cuts[i]? = some c → i ≤ c := by
    intro i
    induction i with
    | zero => intro c _ _; exact Nat.zero_le _
    | succ i ih =>
      intro c hi hc
      obtain ⟨s, e, A, c1, c2, hg⟩ := h4 i _ (List.getElem?_eq_getElem (show i < ms.length by omega))
      rw [hc] at c2; cases c2
      obtain ⟨r, hr⟩ := hg.hd
      have h5 := hg.lt s (by rw [hr]; simp)
      have h6 := ih s (by omega) c1
      omega
  exact key ms.length p (Nat.le_refl _) h3
theorem rising_len (A : List Nat) (s e : Nat) (hp : A.Pairwise (· < ·)) (hl : ∀ a ∈ A, s ≤ a ∧ a < e) : A.length ≤ e - s := by
  induction A generalizing s with
  | nil => simp
  | cons a r ih =>
    obtain ⟨h1, h2⟩ := List.pairwise_cons.1 hp
    have h3 := hl a (by simp)
    have h4 := ih (a + 1) h2 (fun b hb => ⟨h1 b hb, (hl b (by simp [hb])).2⟩)
    rw [List.length_cons]; omega
theorem abv_small {ns ms : List Nv} {f lv : Int} {p : Nat} (h : Abv ns f lv ms p) : ∀ x ∈ ms, x.n.ks.length ≤ p ∧ x.n.vs.length ≤ p := by
  obtain ⟨cuts, h1, h2, h3, h4⟩ := h
  intro x hx
  obtain ⟨i, hi⟩ := List.mem_iff_getElem?.1 hx
  obtain ⟨s, e, A, c1, c2, hg⟩ := h4 i x hi
  have he := cuts_le h1 h3 h4 (i + 1) e c2
  have hA := rising_len A 0 e hg.up (fun a ha => ⟨Nat.zero_le _, hg.lt a ha⟩)
  rw [hg.ks, hg.vs, List.length_map, List.length_map]; omega
theorem linkN_mem {ns : List Nv} {f : Int} {k : Nat} {x : Nv} (h : (linkN ns f)[k]? = some x) : ∃ y, ns[k]? = some y ∧ x = lnk ns f k y := by
  rw [linkN_at] at h
  cases hy : ns[k]? with
  | none => rw [hy] at h; cases h
  | some y => rw [hy] at h; exact ⟨y, rfl, (Option.some.inj h).symm⟩
theorem strs_set (T : List ByteArray) (i : Nat) (b : ByteArray) : (strs T).set i (.string b) = strs (T.set i b) := by simp [strs, List.map_set]
theorem up_set (p : Nat) (h : p < 64) : (bools (Up p)).set p (.bool true) = bools (Up (p + 1)) := by
  have e : List.replicate (64 - p) false = false :: List.replicate (64 - (p + 1)) false := by
    rw [show 64 - p = (64 - (p + 1)) + 1 by omega, List.replicate_succ]
  unfold Up bools
  rw [← List.map_set, e, List.set_append_right _ _ (by simp)]
  simp [List.replicate_succ']
theorem up_len (p : Nat) (h : p ≤ 64) : (Up p).length = 64 := by simp [Up]; omega
/-- The new level's nodes take the old one's place. -/
theorem M.level {w0 w : World} {B : Nat} {a b c : List As} (h : M w0 B w (a ++ (b ++ c))) : M w0 B w (b ++ a) := by
  have h1 : M w0 B w (a ++ b) := h.sub (List.Sublist.append_left (List.sublist_append_left _ _) _)
  exact h1.rot
theorem leaf_len {ns : List Nv} (h : LeafL ns) : ns.length ≤ (keysOf ns).length := by
  induction ns with
  | nil => exact Nat.le_refl _
  | cons x r ih =>
    have h1 := ih (fun y hy => h y (by simp [hy]))
    have h2 : 0 < x.n.ks.length := List.length_pos_iff.2 (h x (by simp)).2.1
    rw [keysOf_cons, List.length_append, List.length_cons]; omega
theorem keysOf_take (ns : List Nv) (k : Nat) (x : Nv) (h : ns[k]? = some x) : keysOf (ns.take (k + 1)) = keysOf (ns.take k) ++ x.n.ks ∧ valsOf (ns.take (k + 1)) = valsOf (ns.take k) ++ x.n.vs := by
  rw [List.take_add_one, h, Option.toList_some, keysOf_app, valsOf_app]
  exact ⟨by simp [keysOf], by simp [valsOf]⟩
end Go.Proofs.YtajobgmnmbnhiaaGreatDoor.Sap
