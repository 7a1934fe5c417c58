/- WHAT IS PROVED HERE: saplingkeep's says and fitted: the node of a page. Conditions: the page unpacks, or it is free; named at each theorem. -/
import Derived.Test.YtajobgmnmbnhiaaDoorXW11S0B
import Derived.Test.YtajobgmnmbnhiaaDoorXM1A5
namespace Go.Proofs.YtajobgmnmbnhiaaDoor.Sap
open Go.RowKit

/-- The pages, in memory. -/
def PgR (gw tg tc ug uc : Nat) (T : List ByteArray) (U : List Bool) (w : World) : Prop :=
  w.cell? ⟨gw, 0, none⟩ = some (.slice (some ⟨tg, 0, none⟩) 64 tc) ∧ w.cell? ⟨gw, 1, none⟩ = some (.slice (some ⟨ug, 0, none⟩) 64 uc) ∧ ∀ p, p < 64 → ∃ t b, T[p]? = some t ∧ U[p]? = some b ∧ w.cell? ⟨tg, p, none⟩ = some (.string t) ∧ w.cell? ⟨ug, p, none⟩ = some (.bool b)
theorem PgR.below {gw tg tc ug uc : Nat} {T : List ByteArray} {U : List Bool} {w w' : World} (h : PgR gw tg tc ug uc T U w) (hb : Below w.heap.size w w') : PgR gw tg tc ug uc T U w' := by
  obtain ⟨h1, h2, h3⟩ := h
  refine ⟨cell_below hb _ _ h1, cell_below hb _ _ h2, fun p hp => ?_⟩
  obtain ⟨t, b, a1, a2, a3, a4⟩ := h3 p hp
  exact ⟨t, b, a1, a2, cell_below hb _ _ a3, cell_below hb _ _ a4⟩
/-- Page p says node n. -/
def Says (T : List ByteArray) (U : List Bool) (p : Nat) (n : Nd) : Prop := p < 64 ∧ U[p]? = some true ∧ ∃ t, T[p]? = some t ∧ Unp t.data.toList n
theorem vals_len {n : Nd} (h : rightB n = true) : n.ks.length = n.vs.length := by
  simp only [rightB, Bool.and_eq_true, decide_eq_true_eq] at h
  omega

theorem Own.m {w w' : World} {kv vv : Value} {ks vs : List Int} (h : Own w' w.heap.size kv vv ks vs) (hb : Below w.heap.size w w') : M w w.heap.size w' [.row 3 1 kv ks.length (ints ks), .row 3 1 vv vs.length (ints vs)] := by
  refine ⟨fun a ha => ?_, ?_, hb, hb.size⟩
  · rcases List.mem_cons.1 ha with rfl | ha
    · exact h.1
    · rcases List.mem_singleton.1 ha with rfl
      exact h.2.1
  · exact List.pairwise_cons.2 ⟨fun b hb2 k h1 h2 => by rcases List.mem_singleton.1 hb2 with rfl; exact h.2.2 k h1 h2, List.pairwise_singleton _ _⟩

set_option maxRecDepth 100000 in
set_option maxHeartbeats 3200000 in
theorem says_yes (gw tg tc ug uc p : Nat) (T : List ByteArray) (U : List Bool) (n : Nd) (w : World) (h : PgR gw tg tc ug uc T U w) (hs : Says T U p n) :
    Calls Tryd.prog 57 #[.pointer (some ⟨gw, 0, none⟩), .int .i64 p] w fun e w' => ∃ kv vv, e = .returned (.tuple #[.agg #[.int .i64 n.lv, .int .i64 n.lk, .int .i64 n.hi, kv, vv], .bool true]) ∧ M w w.heap.size w' [.row 3 1 kv n.ks.length (ints n.ks), .row 3 1 vv n.vs.length (ints n.vs)] := by
  obtain ⟨hp, hu, t, ht, hn⟩ := hs
  obtain ⟨c0, c1, c2⟩ := h
  obtain ⟨t', b, a1, a2, a3, a4⟩ := c2 p hp
  rw [ht] at a1; cases a1
  rw [hu] at a2; cases a2
  have A0 := hideIt ((M.start w).alloc #[.int .i64 0, .int .i64 0, .int .i64 0, .slice none 0 0, .slice none 0 0] 24)
  have k0 := cell_below A0.out.bl _ _ c0
  have k1 := hideIt (cell_below A0.out.bl _ _ c1)
  have k3 := cell_below A0.out.bl _ _ a3
  have k4 := hideIt (cell_below A0.out.bl _ _ a4)
  have hsz := size_of_unp ⟨n, hn⟩
  have hp1 : (0 : Int) ≤ (p : Int) := by omega
  have hp2 : (p : Int) < 64 := by omega
  have hle := vals_len hn.1
  have HN := hideIt hn
  clear c0 c1 c2 a3 a4 ht hu hn
  go_enter Tryd.func57, Tryd.ntmps57
  go_wp2_with fail
  refine (there_yes gw ug uc p _ k1.out k4.out hp).mono ?_
  rintro e w1 ⟨rfl, rfl⟩
  go_wp2_with fail
  refine (unpack_any t _ (by omega)).mono ?_
  rintro e w2 ⟨hR, hb⟩
  rcases hR with ⟨n', kv, vv, hn', hO, rfl⟩ | ⟨hno, -⟩
  case inr => exact absurd HN.out (hno n)
  obtain rfl : n' = n := hn'.uniq HN.out
  have A1 := A0.out.join (hO.m hb)
  obtain ⟨ka, kc, rfl⟩ := As.form0 (A1.get (i := 0) rfl)
  obtain ⟨va, vc, rfl⟩ := As.form0 (A1.get (i := 1) rfl)
  have A2 := hideIt (A1.alloc #[.int .i64 n'.lv, .int .i64 n'.lk, .int .i64 n'.hi, .slice ka n'.ks.length kc, .slice va n'.vs.length vc] 24)
  obtain ⟨g0, hg0⟩ : ∃ g, w.heap.size = g := ⟨_, rfl⟩
  have HG := hideIt hg0
  rw [hg0] at A1 A2 ⊢
  have r0 := A1.cell (i := 2) rfl 0 (.int .i64 0) rfl
  have r1 := A1.cell (i := 2) rfl 1 (.int .i64 0) rfl
  have r2 := A1.cell (i := 2) rfl 2 (.int .i64 0) rfl
  have r3 := A1.cell (i := 2) rfl 3 (.slice none 0 0) rfl
  have r4 := A1.cell (i := 2) rfl 4 (.slice none 0 0) rfl
  have f0 := A1.free (i := 2) rfl 0
  have f1 := A1.free (i := 2) rfl 1
  have f2 := A1.free (i := 2) rfl 2
  have f3 := A1.free (i := 2) rfl 3
  have f4 := A1.free (i := 2) rfl 4
  have hl := A1.lt (i := 2) rfl
  have S5 := hideIt ((A1.store5 (i := 2) rfl (.int .i64 n'.lv) (.int .i64 n'.lk) (.int .i64 n'.hi) (.slice ka n'.ks.length kc) (.slice va n'.vs.length vc)).sub (l' := [_, _]) (List.Sublist.cons_cons _ (List.Sublist.cons_cons _ (List.nil_sublist _))))
  have hlb : ((n'.ks.length : Int) == (n'.vs.length : Int)) = true := by simp [hle]
  have hlb2 : (n'.ks.length == n'.vs.length) = true := by simp [hle]
  clear A0 A1 hO hb hn' k0 k3 HN hle hg0
  go_wp2
  go_region
  all_goals
    go_wp2
    refine bodyPost_ret (v := .tuple #[.agg #[.int .i64 n'.lv, .int .i64 n'.lk, .int .i64 n'.hi, .slice ka n'.ks.length kc, .slice va n'.vs.length vc], .bool true]) (by simp [results, Tryd.results57, go_sem, *]) rfl ⟨_, _, rfl, ?_⟩
    rw [HG.out]
    exact (S5.out.allocd _).drew
end Go.Proofs.YtajobgmnmbnhiaaDoor.Sap

/- WHAT IS PROVED HERE: saplingkeep's world with all its operations as it lies in memory, and one access of any client's operation as a step of it. Conditions: what Next and Tell answer at the operation's frame is given; the access is one that the document lets. -/
namespace Go.Proofs.YtajobgmnmbnhiaaDoor.Sap
open Go.RowKit

/-- An operation, and where it lies. -/
structure Dd where
  gd : Nat
  kg : Nat
  kc : Nat
  tm : Value
  kv : Value
  vv : Value
  cv : Value
  k : Int
  key : Int
  v : Int
  f : ByteArray
  ts : List Int
  kns : List Int
  rf : Bool
  en : Bool
  er : Int
  fd : Bool
  va : Int
  pt : Int
  ks : List Int
  vs : List Int
  cs : List (Int × Int)

def Dd.hd (d : Dd) : List As :=
  [.blk d.gd (DC d.k d.key d.v d.f d.tm (.slice (some ⟨d.kg, 0, none⟩) 64 d.kc) d.rf d.en d.er d.fd d.va d.pt d.kv d.vv d.cv) 84, .row 3 1 (.slice (some ⟨d.kg, 0, none⟩) 64 d.kc) 64 (ints d.kns), .row 3 1 d.tm d.ts.length (ints d.ts)]
def Dd.tl (d : Dd) : List As :=
  [.row 3 1 d.kv d.ks.length (ints d.ks), .row 3 1 d.vv d.vs.length (ints d.vs), .row 142 2 d.cv d.cs.length (cutc d.cs)]
def Dd.as (d : Dd) : List As := d.hd ++ d.tl
/-- It has not ended. -/
def Dd.live (d : Dd) : Prop := d.en = false ∧ d.er = 0 ∧ d.fd = false ∧ d.va = 0 ∧ d.pt = 0 ∧ d.kv = .slice none 0 0 ∧ d.vv = .slice none 0 0 ∧ d.cv = .slice none 0 0 ∧ d.ks = [] ∧ d.vs = [] ∧ d.cs = []
def Dd.ptr (d : Dd) : Value := .pointer (some ⟨d.gd, 0, none⟩)

/-- The world, and where it lies. -/
structure Wd where
  gw : Nat
  tg : Nat
  tc : Nat
  ug : Nat
  uc : Nat
  vg : Nat
  vc : Nat
  bg : Nat
  bc : Nat
  dv : Value
  T : List ByteArray
  U : List Bool
  V : List Int
  bs : List Int
  now : Int
  puts : Int
  rf : Bool
  wt : Bool
  kp : Bool
  cv : Value
  ov : Value
  ds : List Dd

def Wd.hd (x : Wd) : List As :=
  [.blk x.gw (WC (.slice (some ⟨x.tg, 0, none⟩) 64 x.tc) (.slice (some ⟨x.ug, 0, none⟩) 64 x.uc) (.slice (some ⟨x.vg, 0, none⟩) 64 x.vc) x.dv (.slice (some ⟨x.bg, 0, none⟩) 64 x.bc) x.now x.puts x.rf false x.wt false x.kp x.cv x.ov false) 58,
   .row 3 1 (.slice (some ⟨x.bg, 0, none⟩) 64 x.bc) 64 (ints x.bs), .row 81 1 x.dv x.ds.length (x.ds.map Dd.ptr), .row 9 1 (.slice (some ⟨x.tg, 0, none⟩) 64 x.tc) 64 (strs x.T), .row 4 1 (.slice (some ⟨x.ug, 0, none⟩) 64 x.uc) 64 (bools x.U), .row 3 1 (.slice (some ⟨x.vg, 0, none⟩) 64 x.vc) 64 (ints x.V)]
def Wd.as (x : Wd) : List As := x.hd ++ x.ds.flatMap Dd.as

theorem perm_deed (W A D N C fr : List As) : (D ++ (W ++ (N ++ (A ++ (C ++ fr))))).Perm ((W ++ (A ++ ((D ++ N) ++ C))) ++ fr) := by
  have h1 : (W ++ (A ++ ((D ++ N) ++ C))) ++ fr = W ++ (A ++ ((D ++ N) ++ (C ++ fr))) := by simp
  rw [h1]
  refine (List.perm_append_comm_assoc D W _).trans (List.Perm.append_left W ?_)
  rw [← List.append_assoc D N]
  exact List.perm_append_comm_assoc (D ++ N) A _

/-- An operation of the world, and the others. -/
theorem Wd.split (x : Wd) (i : Nat) (d : Dd) (hd : x.ds[i]? = some d) : x.ds.flatMap Dd.as = (x.ds.take i).flatMap Dd.as ++ ((d.hd ++ d.tl) ++ (x.ds.drop (i + 1)).flatMap Dd.as) := by
  have hl := (List.getElem?_eq_some_iff.1 hd).1
  have e : x.ds = x.ds.take i ++ d :: x.ds.drop (i + 1) := by
    rw [← (List.getElem?_eq_some_iff.1 hd).2, List.getElem_cons_drop, List.take_append_drop]
  refine (congrArg (List.flatMap Dd.as) e).trans ?_
  rw [List.flatMap_append, List.flatMap_cons]
  rfl

theorem set_split {α : Type} (l : List α) (i : Nat) (d' : α) (hi : i < l.length) : l.set i d' = l.take i ++ d' :: l.drop (i + 1) := by
  rw [List.set_eq_take_append_cons_drop, if_pos hi]

theorem map_set_ptr (l : List Dd) (i : Nat) (d d' : Dd) (hd : l[i]? = some d) (hp : d'.gd = d.gd) : (l.set i d').map Dd.ptr = l.map Dd.ptr := by
  rw [List.map_set]
  have hi := (List.getElem?_eq_some_iff.1 hd).1
  have e : d'.ptr = (l.map Dd.ptr)[i]'(by simpa using hi) := by
    rw [List.getElem_map, (List.getElem?_eq_some_iff.1 hd).2]
    unfold Dd.ptr; rw [hp]
  rw [e, List.set_getElem_self]

theorem LM.pg {w0 W : World} {B : Nat} {a b : As} {gd kg kc gw tg tc ug uc vg vc dg dc bg bc nd : Nat} {k key v : Int} {f : ByteArray} {tm : Value} {nt : Nat} {drf : Bool} {kns ts : List Int} {now puts : Int} {rf wt kp : Bool} {cv ov : Value} {bs : List Int} {ds : List Value} {T : List ByteArray} {U : List Bool} {V : List Int} {fr : List As} (h : M w0 B W (a :: b :: LM gd kg kc gw tg tc ug uc vg vc dg dc bg bc nd k key v f tm nt drf kns ts now puts rf wt kp cv ov bs ds T U V fr)) : PgR gw tg tc ug uc T U W := by
  refine ⟨h.cell (i := 5) rfl 0 _ rfl, h.cell (i := 5) rfl 1 _ rfl, fun p hp => ?_⟩
  have h1 := (h.get (i := 8) rfl).own.1
  have h2 := (h.get (i := 9) rfl).own.1
  simp [strs] at h1
  simp [bools] at h2
  have ht : T[p]? = some (T[p]'(by omega)) := List.getElem?_eq_getElem (by omega)
  have hu : U[p]? = some (U[p]'(by omega)) := List.getElem?_eq_getElem (by omega)
  exact ⟨_, _, ht, hu, h.rowCell (i := 8) rfl p _ (strs_get ht), h.rowCell (i := 9) rfl p _ (bools_get hu)⟩

set_option maxRecDepth 100000 in
set_option maxHeartbeats 1600000 in
theorem sys_go (x : Wd) (d : Dd) (c i : Nat) (ak ap av rv rp : Int) (at' rt : ByteArray) (rd drf' : Bool) (kns' V' : List Int) (T' : List ByteArray) (U' : List Bool) (P : ByteArray → Prop) (fr : List As) (w0 w : World) (B : Nat) (htab : Tab w0) (hB : B = w0.heap.size) (hc : c < 64) (hb : x.bs[c]? = some (i : Int)) (hd : x.ds[i]? = some d) (hlive : d.live) (hkp : x.kp = false)
    (hStands : x.wt = true → ak ≠ 1 → ∀ W, PgR x.gw x.tg x.tc x.ug x.uc T' U' W → Calls Tryd.prog 84 #[.pointer (some ⟨x.gw, 0, none⟩)] W fun e w' => e = .returned (.bool true) ∧ Below W.heap.size W w')
    (hnd : x.ds.length ≤ 100000000) (hnt : d.ts.length ≤ 100000000) (hnw : 0 ≤ x.now ∧ x.now ≤ 100000000000)
    (hNext : ∀ W, Tab W → Calls Tryd.prog 26 #[.string d.f] W fun e w' => e = .returned (.tuple #[.agg #[.int .i64 ak, .int .i64 ap, .int .i64 av, .string at'], .int .i64 0]) ∧ Below W.heap.size W w')
    (hA : AccR d.k ak ap av at' x.T x.U x.V d.kns d.rf rv rp rt rd T' U' V' kns' drf')
    (hTell : ∀ W, Tab W → Calls Tryd.prog 61 #[.string d.f, .agg #[.int .i64 rv, .int .i64 rp, .string rt, .bool rd]] W fun e w' => GoR P W w' e)
    (h : M w0 B w (x.as ++ fr)) :
    Calls Tryd.prog 56 #[.pointer (some ⟨x.gw, 0, none⟩), .int .i64 c] w fun e w' => (∃ u, e = .returned u) ∧ ∃ tm' f', P f' ∧ M w0 B w' (({ x with T := T', U := U', V := V', now := x.now + 1, rf := x.rf || drf', ds := x.ds.set i { d with tm := tm', f := f', ts := d.ts ++ [x.now], kns := kns', rf := drf' } } : Wd).as ++ fr) := by
  have hil := (List.getElem?_eq_some_iff.1 hd).1
  have e1 := x.split i d hd
  have hx : x.as = x.hd ++ ((x.ds.take i).flatMap Dd.as ++ ((d.hd ++ d.tl) ++ (x.ds.drop (i + 1)).flatMap Dd.as)) := by unfold Wd.as; rw [e1]
  rw [hx] at h
  have h1 := h.perm (perm_deed x.hd ((x.ds.take i).flatMap Dd.as) d.hd d.tl ((x.ds.drop (i + 1)).flatMap Dd.as) fr)
  obtain ⟨dg, dc, hdv⟩ := As.form (h1.get (i := 5) rfl) (show 0 < x.ds.length by omega)
  obtain ⟨en, er, fd, va, pt, hkv, hvv, hcv, hks, hvs, hcs⟩ := hlive
  have hdp : (x.ds.map Dd.ptr)[i]? = some (.pointer (some ⟨d.gd, 0, none⟩)) := by rw [List.getElem?_map, hd]; rfl
  have hLM : d.hd ++ (x.hd ++ (d.tl ++ ((x.ds.take i).flatMap Dd.as ++ ((x.ds.drop (i + 1)).flatMap Dd.as ++ fr)))) = LM d.gd d.kg d.kc x.gw x.tg x.tc x.ug x.uc x.vg x.vc dg dc x.bg x.bc x.ds.length d.k d.key d.v d.f d.tm d.ts.length d.rf d.kns d.ts x.now x.puts x.rf x.wt false x.cv x.ov x.bs (x.ds.map Dd.ptr) x.T x.U x.V (d.tl ++ ((x.ds.take i).flatMap Dd.as ++ ((x.ds.drop (i + 1)).flatMap Dd.as ++ fr))) := by
    unfold Dd.hd Wd.hd LM
    rw [hdv, en, er, fd, va, pt, hkv, hvv, hcv, hkp]
    rfl
  rw [hLM] at h1
  refine (move_go d.gd d.kg d.kc d.ts.length x.gw x.tg x.tc x.ug x.uc x.vg x.vc dg dc x.bg x.bc x.ds.length i c x.cv x.ov x.now x.puts d.k d.key d.v ak ap av rv rp d.f at' rt rd d.rf drf' x.rf x.wt d.kns kns' x.bs x.V V' (x.ds.map Dd.ptr) d.ts x.T T' x.U U' d.tm P _ w0 w B htab hB hc hb hdp hnd (by simp) hnt hnw hNext
    (fun W ga hW => acc_legal hA hW)
    (fun W ga hW => acc_act hA hW)
    (fun W ga gr hW => acc_learns hA hW)
    (fun hw hk W ga gr hW => hStands hw hk W (LM.pg hW))
    hTell h1).mono ?_
  rintro e w' ⟨he, tm', f', hP, hM⟩
  refine ⟨he, tm', f', hP, ?_⟩
  obtain ⟨d', hd'⟩ : ∃ y : Dd, y = { d with tm := tm', f := f', ts := d.ts ++ [x.now], kns := kns', rf := drf' } := ⟨_, rfl⟩
  rw [← hd']
  obtain ⟨x', hx'⟩ : ∃ y : Wd, y = { x with T := T', U := U', V := V', now := x.now + 1, rf := x.rf || drf', ds := x.ds.set i d' } := ⟨_, rfl⟩
  rw [← hx']
  have hg : d'.gd = d.gd := by rw [hd']
  have e2 : x'.as = x'.hd ++ ((x.ds.take i).flatMap Dd.as ++ ((d'.hd ++ d'.tl) ++ (x.ds.drop (i + 1)).flatMap Dd.as)) := by
    unfold Wd.as
    rw [show x'.ds = x.ds.set i d' by rw [hx'], set_split _ _ _ hil, List.flatMap_append, List.flatMap_cons]
    rfl
  rw [e2]
  refine M.perm ?_ (perm_deed x'.hd ((x.ds.take i).flatMap Dd.as) d'.hd d'.tl ((x.ds.drop (i + 1)).flatMap Dd.as) fr).symm
  have e3 : d'.hd ++ (x'.hd ++ (d'.tl ++ ((x.ds.take i).flatMap Dd.as ++ ((x.ds.drop (i + 1)).flatMap Dd.as ++ fr)))) = LM d.gd d.kg d.kc x.gw x.tg x.tc x.ug x.uc x.vg x.vc dg dc x.bg x.bc x.ds.length d.k d.key d.v f' tm' (d.ts.length + 1) drf' kns' (d.ts ++ [x.now]) (x.now + 1) x.puts (x.rf || drf') x.wt false x.cv x.ov x.bs (x.ds.map Dd.ptr) T' U' V' (d.tl ++ ((x.ds.take i).flatMap Dd.as ++ ((x.ds.drop (i + 1)).flatMap Dd.as ++ fr))) := by
    have e4 : x'.ds.map Dd.ptr = x.ds.map Dd.ptr := by rw [hx']; exact map_set_ptr x.ds i d d' hd hg
    have e5 : x'.ds.length = x.ds.length := by rw [hx']; simp
    have e6 : d'.tl = d.tl := by rw [hd']; rfl
    rw [e6]
    unfold Dd.hd Wd.hd LM
    rw [e4, e5]
    subst hx' hd'
    simp only [List.length_append, List.length_singleton, hdv, en, er, fd, va, pt, hkv, hvv, hcv, hkp]
    rfl
  rw [e3]
  exact hM
set_option maxRecDepth 100000 in
set_option maxHeartbeats 1600000 in
theorem sys_end (x : Wd) (d : Dd) (c i : Nat) (ak ap av rv rp : Int) (at' rt : ByteArray) (rd drf' : Bool) (kns' V' : List Int) (T' : List ByteArray) (U' : List Bool) (er : Int) (fd : Bool) (va pt : Int) (ks vs : List Int) (cs : List (Int × Int)) (fr : List As) (w0 w : World) (B : Nat) (htab : Tab w0) (hB : B = w0.heap.size) (hc : c < 64) (hb : x.bs[c]? = some (i : Int)) (hd : x.ds[i]? = some d) (hlive : d.live) (hkp : x.kp = false)
    (hStands : x.wt = true → ak ≠ 1 → ∀ W, PgR x.gw x.tg x.tc x.ug x.uc T' U' W → Calls Tryd.prog 84 #[.pointer (some ⟨x.gw, 0, none⟩)] W fun e w' => e = .returned (.bool true) ∧ Below W.heap.size W w')
    (hnd : x.ds.length ≤ 100000000) (hnt : d.ts.length ≤ 100000000) (hnw : 0 ≤ x.now ∧ x.now ≤ 100000000000)
    (hNext : ∀ W, Tab W → Calls Tryd.prog 26 #[.string d.f] W fun e w' => e = .returned (.tuple #[.agg #[.int .i64 ak, .int .i64 ap, .int .i64 av, .string at'], .int .i64 0]) ∧ Below W.heap.size W w')
    (hA : AccR d.k ak ap av at' x.T x.U x.V d.kns d.rf rv rp rt rd T' U' V' kns' drf')
    (hTell : ∀ W, Tab W → Calls Tryd.prog 61 #[.string d.f, .agg #[.int .i64 rv, .int .i64 rp, .string rt, .bool rd]] W fun e w' => FinR er fd va pt ks vs cs W w' e)
    (h : M w0 B w (x.as ++ fr)) :
    Calls Tryd.prog 56 #[.pointer (some ⟨x.gw, 0, none⟩), .int .i64 c] w fun e w' => (∃ u, e = .returned u) ∧ ∃ tm' kv vv cv, M w0 B w' (({ x with T := T', U := U', V := V', bs := x.bs.set c (-1), now := x.now + 1, rf := x.rf || drf', ds := x.ds.set i { d with tm := tm', f := ⟨#[]⟩, ts := d.ts ++ [x.now], kns := kns', rf := drf', en := true, er := er, fd := fd, va := va, pt := pt, kv := kv, vv := vv, cv := cv, ks := ks, vs := vs, cs := cs } } : Wd).as ++ fr) := by
  have hil := (List.getElem?_eq_some_iff.1 hd).1
  have e1 := x.split i d hd
  have hx : x.as = x.hd ++ ((x.ds.take i).flatMap Dd.as ++ ((d.hd ++ d.tl) ++ (x.ds.drop (i + 1)).flatMap Dd.as)) := by unfold Wd.as; rw [e1]
  rw [hx] at h
  have h1 := h.perm (perm_deed x.hd ((x.ds.take i).flatMap Dd.as) d.hd d.tl ((x.ds.drop (i + 1)).flatMap Dd.as) fr)
  obtain ⟨dg, dc, hdv⟩ := As.form (h1.get (i := 5) rfl) (show 0 < x.ds.length by omega)
  obtain ⟨en, her, hfd, hva, hpt, hkv, hvv, hcv, hks, hvs, hcs⟩ := hlive
  have hdp : (x.ds.map Dd.ptr)[i]? = some (.pointer (some ⟨d.gd, 0, none⟩)) := by rw [List.getElem?_map, hd]; rfl
  have hLM : d.hd ++ (x.hd ++ (d.tl ++ ((x.ds.take i).flatMap Dd.as ++ ((x.ds.drop (i + 1)).flatMap Dd.as ++ fr)))) = LM d.gd d.kg d.kc x.gw x.tg x.tc x.ug x.uc x.vg x.vc dg dc x.bg x.bc x.ds.length d.k d.key d.v d.f d.tm d.ts.length d.rf d.kns d.ts x.now x.puts x.rf x.wt false x.cv x.ov x.bs (x.ds.map Dd.ptr) x.T x.U x.V (d.tl ++ ((x.ds.take i).flatMap Dd.as ++ ((x.ds.drop (i + 1)).flatMap Dd.as ++ fr))) := by
    unfold Dd.hd Wd.hd LM
    rw [hdv, en, her, hfd, hva, hpt, hkv, hvv, hcv, hkp]
    rfl
  rw [hLM] at h1
  refine (move_end d.gd d.kg d.kc d.ts.length x.gw x.tg x.tc x.ug x.uc x.vg x.vc dg dc x.bg x.bc x.ds.length i c x.cv x.ov x.now x.puts d.k d.key d.v ak ap av rv rp d.f at' rt rd d.rf drf' x.rf x.wt d.kns kns' x.bs x.V V' (x.ds.map Dd.ptr) d.ts x.T T' x.U U' d.tm er fd va pt ks vs cs _ w0 w B htab hB hc hb hdp hnd (by simp) hnt hnw hNext
    (fun W ga hW => acc_legal hA hW)
    (fun W ga hW => acc_act hA hW)
    (fun W ga gr hW => acc_learns hA hW)
    (fun hw hk W ga gr hW => hStands hw hk W (LM.pg hW))
    hTell h1).mono ?_
  rintro e w' ⟨he, tm', kv, vv, cv, hM⟩
  refine ⟨he, tm', kv, vv, cv, ?_⟩
  obtain ⟨d', hd'⟩ : ∃ y : Dd, y = { d with tm := tm', f := ⟨#[]⟩, ts := d.ts ++ [x.now], kns := kns', rf := drf', en := true, er := er, fd := fd, va := va, pt := pt, kv := kv, vv := vv, cv := cv, ks := ks, vs := vs, cs := cs } := ⟨_, rfl⟩
  rw [← hd']
  obtain ⟨x', hx'⟩ : ∃ y : Wd, y = { x with T := T', U := U', V := V', bs := x.bs.set c (-1), now := x.now + 1, rf := x.rf || drf', ds := x.ds.set i d' } := ⟨_, rfl⟩
  rw [← hx']
  have hg : d'.gd = d.gd := by rw [hd']
  have e2 : x'.as = x'.hd ++ ((x.ds.take i).flatMap Dd.as ++ ((d'.hd ++ d'.tl) ++ (x.ds.drop (i + 1)).flatMap Dd.as)) := by
    unfold Wd.as
    rw [show x'.ds = x.ds.set i d' by rw [hx'], set_split _ _ _ hil, List.flatMap_append, List.flatMap_cons]
    rfl
  rw [e2]
  refine M.perm ?_ (perm_deed x'.hd ((x.ds.take i).flatMap Dd.as) d'.hd d'.tl ((x.ds.drop (i + 1)).flatMap Dd.as) fr).symm
  have e4 : x'.ds.map Dd.ptr = x.ds.map Dd.ptr := by rw [hx']; exact map_set_ptr x.ds i d d' hd hg
  have e5 : x'.ds.length = x.ds.length := by rw [hx']; simp
  have e3 : d'.tl ++ (d'.hd ++ (x'.hd ++ (d.tl ++ ((x.ds.take i).flatMap Dd.as ++ ((x.ds.drop (i + 1)).flatMap Dd.as ++ fr))))) = LE d.gd d.kg d.kc x.gw x.tg x.tc x.ug x.uc x.vg x.vc dg dc x.bg x.bc x.ds.length d.k d.key d.v tm' (d.ts.length + 1) drf' er fd va pt kv vv cv ks vs cs kns' (d.ts ++ [x.now]) (x.now + 1) x.puts (x.rf || drf') x.wt false x.cv x.ov (x.bs.set c (-1)) (x.ds.map Dd.ptr) T' U' V' (d.tl ++ ((x.ds.take i).flatMap Dd.as ++ ((x.ds.drop (i + 1)).flatMap Dd.as ++ fr))) := by
    obtain ⟨z, hz⟩ : ∃ z, d.tl ++ ((x.ds.take i).flatMap Dd.as ++ ((x.ds.drop (i + 1)).flatMap Dd.as ++ fr)) = z := ⟨_, rfl⟩
    rw [hz]
    unfold Dd.hd Dd.tl Wd.hd LE
    rw [e4, e5]
    subst hx' hd'
    simp only [List.length_append, List.length_singleton, hdv, hkp]
    rfl
  rw [← e3] at hM
  have h5 := hM.perm (l' := d'.tl ++ (d'.hd ++ (x'.hd ++ ((x.ds.take i).flatMap Dd.as ++ ((x.ds.drop (i + 1)).flatMap Dd.as ++ fr)))) ++ d.tl) (by
    refine (List.perm_append_comm).trans ?_
    refine (List.perm_append_comm_assoc _ _ _).trans (List.Perm.append_left _ ?_)
    refine (List.perm_append_comm_assoc _ _ _).trans (List.Perm.append_left _ ?_)
    exact List.perm_append_comm_assoc _ _ _)
  have h6 := h5.sub (List.sublist_append_left _ _)
  exact h6.perm ((List.Perm.append_left _ (List.perm_append_comm_assoc _ _ _)).trans (List.perm_append_comm_assoc _ _ _))
end Go.Proofs.YtajobgmnmbnhiaaDoor.Sap

/- WHAT IS PROVED HERE: saplingkeep's alone: a client moves alone till its operation ends. Conditions: each of its accesses keeps a given invariant of the world and comes nearer to the end (hstep). -/
namespace Go.Proofs.YtajobgmnmbnhiaaDoor.Sap
open Go.RowKit

set_option maxRecDepth 100000 in
set_option maxHeartbeats 6400000 in
theorem alone_gen (c gw : Nat) (I : Wd → Prop) (rk : Wd → Nat) (fr : List As) (w0 w : World) (B : Nat) (x0 : Wd) (hc : c < 64) (hgw : ∀ x, I x → x.gw = gw) (hbs : ∀ x, I x → x.bs[c]? = some (-1) ∨ (∃ i : Nat, x.bs[c]? = some (i : Int)) ∧ 0 < rk x)
    (hstep : ∀ x (i : Nat) W, I x → x.bs[c]? = some (i : Int) → M w0 B W (x.as ++ fr) → Calls Tryd.prog 56 #[.pointer (some ⟨gw, 0, none⟩), .int .i64 c] W fun e w' => (∃ u, e = .returned u) ∧ ∃ x', I x' ∧ rk x' < rk x ∧ M w0 B w' (x'.as ++ fr))
    (hI : I x0) (h0 : rk x0 ≤ 1000) (h : M w0 B w (x0.as ++ fr)) :
    Calls Tryd.prog 37 #[.pointer (some ⟨gw, 0, none⟩), .int .i64 c] w fun e w' => (∃ u, e = .returned u) ∧ ∃ x', I x' ∧ x'.bs[c]? = some (-1) ∧ M w0 B w' (x'.as ++ fr) := by
  have hc0 : (0 : Int) ≤ (c : Int) := by omega
  have hc1 : (c : Int) < 64 := by omega
  have HM := hideIt h
  have HI := hideIt hI
  have HGW := hideIt hgw
  have HBS := hideIt hbs
  have HS := hideIt hstep
  clear h hI hgw hbs hstep
  go_enter Tryd.func37, Tryd.ntmps37
  go_wp2
  go_loopw [4] (fun y wr => ∃ (j n : Nat) (x : Wd), y = .int .i64 j ∧ j + n ≤ 1000 ∧ Hid (rk x = n) ∧ Hid (I x) ∧ Hid (M w0 B wr (x.as ++ fr))) (fun i _ => 1000 - (intOf i).toNat)
  case atStart => exact ⟨0, rk x0, x0, rfl, by omega, rfl, HI.out, HM.out⟩
  case round =>
    clear HM HI
    obtain ⟨j, n, x, rfl, hj, hr, hI, hM⟩ := hrel
    have hg := HGW.out x hI.out
    subst hg
    have g14 := hM.out.cell (i := 0) rfl 14 (.bool false) rfl
    have g4 := hM.out.cell (i := 0) rfl 4 (.slice (some ⟨x.bg, 0, none⟩) 64 x.bc) rfl
    rcases HBS.out x hI.out with hb | ⟨⟨i, hb⟩, hpos⟩
    · have b0 := hM.out.rowCell (i := 1) rfl c (.int .i64 (-1)) (ints_get hb)
      have e14 := hM.out.free (i := 0) rfl 14
      have S1 := hideIt (hM.out.store (i := 0) (j := 14) rfl (.bool false) rfl)
      have HB := hideIt hb
      clear hM hb
      by_cases hj1 : (j : Int) < 1000
      · go_wp2
        exact bodyPost_end (results_none Tryd.results37 _ _ _) rfl ⟨⟨_, rfl⟩, x, hI.out, HB.out, S1.out⟩
      · go_wp2
        exact bodyPost_end (results_none Tryd.results37 _ _ _) rfl ⟨⟨_, rfl⟩, x, hI.out, HB.out, S1.out⟩
    · have b0 := hM.out.rowCell (i := 1) rfl c (.int .i64 i) (ints_get hb)
      rw [hr.out] at hpos
      have hj1 : (j : Int) < 1000 := by omega
      have hi0 : (0 : Int) ≤ (i : Int) := by omega
      have CM := hideIt (HS.out x i wr hI.out hb hM.out)
      clear hM hb hI
      go_wp2_with fail
      refine CM.out.mono ?_
      rintro e w1 ⟨⟨u, rfl⟩, x', hI', hr', hM'⟩
      have HI2 := hideIt hI'
      have HM2 := hideIt hM'
      rw [hr.out] at hr'
      clear CM g14 g4 b0 hI' hM'
      go_wp2
      go_roundw
      case rel => exact ⟨j + 1, rk x', x', by go_num, by omega, rfl, HI2.out, HM2.out⟩
      case measure => simp [intOf]; omega
end Go.Proofs.YtajobgmnmbnhiaaDoor.Sap
