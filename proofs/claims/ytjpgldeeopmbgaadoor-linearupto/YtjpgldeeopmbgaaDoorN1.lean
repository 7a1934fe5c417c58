/- WHAT IS PROVED HERE: saplingkeep's world with all its operations as it lies in memory, and one access of any client's operation as a step of it. Conditions: what Next and Tell answer at the operation's frame is given; the access is one that the document lets. -/
import Derived.Test.YtjpgldeeopmbgaaDoorQ1
namespace Go.Proofs.YtjpgldeeopmbgaaDoor.Sap
open Go.RowKit

/-- An operation, and where it lies. -/
structure Dd where
  gd : Nat
  kg : Nat
  kc : Nat
  tm : Value
  kv : Value
  vv : Value
  cv : Value
  k : Int
  key : Int
  v : Int
  f : ByteArray
  ts : List Int
  kns : List Int
  rf : Bool
  en : Bool
  er : Int
  fd : Bool
  va : Int
  pt : Int
  ks : List Int
  vs : List Int
  cs : List (Int × Int)

def Dd.hd (d : Dd) : List As :=
  [.blk d.gd (DC d.k d.key d.v d.f d.tm (.slice (some ⟨d.kg, 0, none⟩) 64 d.kc) d.rf d.en d.er d.fd d.va d.pt d.kv d.vv d.cv) 68, .row 3 1 (.slice (some ⟨d.kg, 0, none⟩) 64 d.kc) 64 (ints d.kns), .row 3 1 d.tm d.ts.length (ints d.ts)]
def Dd.tl (d : Dd) : List As :=
  [.row 3 1 d.kv d.ks.length (ints d.ks), .row 3 1 d.vv d.vs.length (ints d.vs), .row 112 2 d.cv d.cs.length (cutc d.cs)]
def Dd.as (d : Dd) : List As := d.hd ++ d.tl
/-- It has not ended. -/
def Dd.live (d : Dd) : Prop := d.en = false ∧ d.er = 0 ∧ d.fd = false ∧ d.va = 0 ∧ d.pt = 0 ∧ d.kv = .slice none 0 0 ∧ d.vv = .slice none 0 0 ∧ d.cv = .slice none 0 0 ∧ d.ks = [] ∧ d.vs = [] ∧ d.cs = []
def Dd.ptr (d : Dd) : Value := .pointer (some ⟨d.gd, 0, none⟩)

/-- The world, and where it lies. -/
structure Wd where
  gw : Nat
  tg : Nat
  tc : Nat
  ug : Nat
  uc : Nat
  vg : Nat
  vc : Nat
  bg : Nat
  bc : Nat
  dv : Value
  T : List ByteArray
  U : List Bool
  V : List Int
  bs : List Int
  now : Int
  puts : Int
  rf : Bool
  wt : Bool
  kp : Bool
  cv : Value
  ov : Value
  ds : List Dd

def Wd.hd (x : Wd) : List As :=
  [.blk x.gw (WC (.slice (some ⟨x.tg, 0, none⟩) 64 x.tc) (.slice (some ⟨x.ug, 0, none⟩) 64 x.uc) (.slice (some ⟨x.vg, 0, none⟩) 64 x.vc) x.dv (.slice (some ⟨x.bg, 0, none⟩) 64 x.bc) x.now x.puts x.rf false x.wt false x.kp x.cv x.ov false) 58,
   .row 3 1 (.slice (some ⟨x.bg, 0, none⟩) 64 x.bc) 64 (ints x.bs), .row 61 1 x.dv x.ds.length (x.ds.map Dd.ptr), .row 9 1 (.slice (some ⟨x.tg, 0, none⟩) 64 x.tc) 64 (strs x.T), .row 4 1 (.slice (some ⟨x.ug, 0, none⟩) 64 x.uc) 64 (bools x.U), .row 3 1 (.slice (some ⟨x.vg, 0, none⟩) 64 x.vc) 64 (ints x.V)]
def Wd.as (x : Wd) : List As := x.hd ++ x.ds.flatMap Dd.as

theorem perm_deed (W A D N C fr : List As) : (D ++ (W ++ (N ++ (A ++ (C ++ fr))))).Perm ((W ++ (A ++ ((D ++ N) ++ C))) ++ fr) := by
  have h1 : (W ++ (A ++ ((D ++ N) ++ C))) ++ fr = W ++ (A ++ ((D ++ N) ++ (C ++ fr))) := by simp
  rw [h1]
  refine (List.perm_append_comm_assoc D W _).trans (List.Perm.append_left W ?_)
  rw [← List.append_assoc D N]
  exact List.perm_append_comm_assoc (D ++ N) A _

/-- An operation of the world, and the others. -/
theorem Wd.split (x : Wd) (i : Nat) (d : Dd) (hd : x.ds[i]? = some d) : x.ds.flatMap Dd.as = (x.ds.take i).flatMap Dd.as ++ ((d.hd ++ d.tl) ++ (x.ds.drop (i + 1)).flatMap Dd.as) := by
  have hl := (List.getElem?_eq_some_iff.1 hd).1
  have e : x.ds = x.ds.take i ++ d :: x.ds.drop (i + 1) := by
    rw [← (List.getElem?_eq_some_iff.1 hd).2, List.getElem_cons_drop, List.take_append_drop]
  refine (congrArg (List.flatMap Dd.as) e).trans ?_
  rw [List.flatMap_append, List.flatMap_cons]
  rfl

theorem set_split {α : Type} (l : List α) (i : Nat) (d' : α) (hi : i < l.length) : l.set i d' = l.take i ++ d' :: l.drop (i + 1) := by
  rw [List.set_eq_take_append_cons_drop, if_pos hi]

theorem map_set_ptr (l : List Dd) (i : Nat) (d d' : Dd) (hd : l[i]? = some d) (hp : d'.gd = d.gd) : (l.set i d').map Dd.ptr = l.map Dd.ptr := by
  rw [List.map_set]
  have hi := (List.getElem?_eq_some_iff.1 hd).1
  have e : d'.ptr = (l.map Dd.ptr)[i]'(by simpa using hi) := by
    rw [List.getElem_map, (List.getElem?_eq_some_iff.1 hd).2]
    unfold Dd.ptr; rw [hp]
  rw [e, List.set_getElem_self]

theorem LM.pg {w0 W : World} {B : Nat} {a b : As} {gd kg kc gw tg tc ug uc vg vc dg dc bg bc nd : Nat} {k key v : Int} {f : ByteArray} {tm : Value} {nt : Nat} {drf : Bool} {kns ts : List Int} {now puts : Int} {rf wt kp : Bool} {cv ov : Value} {bs : List Int} {ds : List Value} {T : List ByteArray} {U : List Bool} {V : List Int} {fr : List As} (h : M w0 B W (a :: b :: LM gd kg kc gw tg tc ug uc vg vc dg dc bg bc nd k key v f tm nt drf kns ts now puts rf wt kp cv ov bs ds T U V fr)) : PgR gw tg tc ug uc T U W := by
  refine ⟨h.cell (i := 5) rfl 0 _ rfl, h.cell (i := 5) rfl 1 _ rfl, fun p hp => ?_⟩
  have h1 := (h.get (i := 8) rfl).own.1
  have h2 := (h.get (i := 9) rfl).own.1
  simp [strs] at h1
  simp [bools] at h2
  have ht : T[p]? = some (T[p]'(by omega)) := List.getElem?_eq_getElem (by omega)
  have hu : U[p]? = some (U[p]'(by omega)) := List.getElem?_eq_getElem (by omega)
  exact ⟨_, _, ht, hu, h.rowCell (i := 8) rfl p _ (strs_get ht), h.rowCell (i := 9) rfl p _ (bools_get hu)⟩

set_option maxRecDepth 100000 in
set_option maxHeartbeats 1600000 in
theorem sys_go (x : Wd) (d : Dd) (c i : Nat) (ak ap av rv rp : Int) (at' rt : ByteArray) (rd drf' : Bool) (kns' V' : List Int) (T' : List ByteArray) (U' : List Bool) (P : ByteArray → Prop) (fr : List As) (w0 w : World) (B : Nat) (htab : Tab w0) (hB : B = w0.heap.size) (hc : c < 64) (hb : x.bs[c]? = some (i : Int)) (hd : x.ds[i]? = some d) (hlive : d.live) (hkp : x.kp = false)
    (hStands : x.wt = true → ak ≠ 1 → ∀ W, PgR x.gw x.tg x.tc x.ug x.uc T' U' W → Calls Tryd.prog 92 #[.pointer (some ⟨x.gw, 0, none⟩)] W fun e w' => e = .returned (.bool true) ∧ Below W.heap.size W w')
    (hnd : x.ds.length ≤ 100000000) (hnt : d.ts.length ≤ 100000000) (hnw : 0 ≤ x.now ∧ x.now ≤ 100000000000)
    (hNext : ∀ W, Calls Tryd.prog 29 #[.string d.f] W fun e w' => e = .returned (.tuple #[.agg #[.int .i64 ak, .int .i64 ap, .int .i64 av, .string at'], .int .i64 0]) ∧ Below W.heap.size W w')
    (hA : AccR d.k ak ap av at' x.T x.U x.V d.kns d.rf rv rp rt rd T' U' V' kns' drf')
    (hTell : ∀ W, Tab W → Calls Tryd.prog 70 #[.string d.f, .agg #[.int .i64 rv, .int .i64 rp, .string rt, .bool rd]] W fun e w' => GoR P W w' e)
    (h : M w0 B w (x.as ++ fr)) :
    Calls Tryd.prog 63 #[.pointer (some ⟨x.gw, 0, none⟩), .int .i64 c] w fun e w' => (∃ u, e = .returned u) ∧ ∃ tm' f', P f' ∧ M w0 B w' (({ x with T := T', U := U', V := V', now := x.now + 1, rf := x.rf || drf', ds := x.ds.set i { d with tm := tm', f := f', ts := d.ts ++ [x.now], kns := kns', rf := drf' } } : Wd).as ++ fr) := by
  have hil := (List.getElem?_eq_some_iff.1 hd).1
  have e1 := x.split i d hd
  have hx : x.as = x.hd ++ ((x.ds.take i).flatMap Dd.as ++ ((d.hd ++ d.tl) ++ (x.ds.drop (i + 1)).flatMap Dd.as)) := by unfold Wd.as; rw [e1]
  rw [hx] at h
  have h1 := h.perm (perm_deed x.hd ((x.ds.take i).flatMap Dd.as) d.hd d.tl ((x.ds.drop (i + 1)).flatMap Dd.as) fr)
  obtain ⟨dg, dc, hdv⟩ := As.form (h1.get (i := 5) rfl) (show 0 < x.ds.length by omega)
  obtain ⟨en, er, fd, va, pt, hkv, hvv, hcv, hks, hvs, hcs⟩ := hlive
  have hdp : (x.ds.map Dd.ptr)[i]? = some (.pointer (some ⟨d.gd, 0, none⟩)) := by rw [List.getElem?_map, hd]; rfl
  have hLM : d.hd ++ (x.hd ++ (d.tl ++ ((x.ds.take i).flatMap Dd.as ++ ((x.ds.drop (i + 1)).flatMap Dd.as ++ fr)))) = LM d.gd d.kg d.kc x.gw x.tg x.tc x.ug x.uc x.vg x.vc dg dc x.bg x.bc x.ds.length d.k d.key d.v d.f d.tm d.ts.length d.rf d.kns d.ts x.now x.puts x.rf x.wt false x.cv x.ov x.bs (x.ds.map Dd.ptr) x.T x.U x.V (d.tl ++ ((x.ds.take i).flatMap Dd.as ++ ((x.ds.drop (i + 1)).flatMap Dd.as ++ fr))) := by
    unfold Dd.hd Wd.hd LM
    rw [hdv, en, er, fd, va, pt, hkv, hvv, hcv, hkp]
    rfl
  rw [hLM] at h1
  refine (move_go d.gd d.kg d.kc d.ts.length x.gw x.tg x.tc x.ug x.uc x.vg x.vc dg dc x.bg x.bc x.ds.length i c x.cv x.ov x.now x.puts d.k d.key d.v ak ap av rv rp d.f at' rt rd d.rf drf' x.rf x.wt d.kns kns' x.bs x.V V' (x.ds.map Dd.ptr) d.ts x.T T' x.U U' d.tm P _ w0 w B htab hB hc hb hdp hnd (by simp) hnt hnw hNext
    (fun W ga hW => acc_legal hA hW)
    (fun W ga hW => acc_act hA hW)
    (fun W ga gr hW => acc_learns hA hW)
    (fun hw hk W ga gr hW => hStands hw hk W (LM.pg hW))
    hTell h1).mono ?_
  rintro e w' ⟨he, tm', f', hP, hM⟩
  refine ⟨he, tm', f', hP, ?_⟩
  obtain ⟨d', hd'⟩ : ∃ y : Dd, y = { d with tm := tm', f := f', ts := d.ts ++ [x.now], kns := kns', rf := drf' } := ⟨_, rfl⟩
  rw [← hd']
  obtain ⟨x', hx'⟩ : ∃ y : Wd, y = { x with T := T', U := U', V := V', now := x.now + 1, rf := x.rf || drf', ds := x.ds.set i d' } := ⟨_, rfl⟩
  rw [← hx']
  have hg : d'.gd = d.gd := by rw [hd']
  have e2 : x'.as = x'.hd ++ ((x.ds.take i).flatMap Dd.as ++ ((d'.hd ++ d'.tl) ++ (x.ds.drop (i + 1)).flatMap Dd.as)) := by
    unfold Wd.as
    rw [show x'.ds = x.ds.set i d' by rw [hx'], set_split _ _ _ hil, List.flatMap_append, List.flatMap_cons]
    rfl
  rw [e2]
  refine M.perm ?_ (perm_deed x'.hd ((x.ds.take i).flatMap Dd.as) d'.hd d'.tl ((x.ds.drop (i + 1)).flatMap Dd.as) fr).symm
  have e3 : d'.hd ++ (x'.hd ++ (d'.tl ++ ((x.ds.take i).flatMap Dd.as ++ ((x.ds.drop (i + 1)).flatMap Dd.as ++ fr)))) = LM d.gd d.kg d.kc x.gw x.tg x.tc x.ug x.uc x.vg x.vc dg dc x.bg x.bc x.ds.length d.k d.key d.v f' tm' (d.ts.length + 1) drf' kns' (d.ts ++ [x.now]) (x.now + 1) x.puts (x.rf || drf') x.wt false x.cv x.ov x.bs (x.ds.map Dd.ptr) T' U' V' (d.tl ++ ((x.ds.take i).flatMap Dd.as ++ ((x.ds.drop (i + 1)).flatMap Dd.as ++ fr))) := by
    have e4 : x'.ds.map Dd.ptr = x.ds.map Dd.ptr := by rw [hx']; exact map_set_ptr x.ds i d d' hd hg
    have e5 : x'.ds.length = x.ds.length := by rw [hx']; simp
    have e6 : d'.tl = d.tl := by rw [hd']; rfl
    rw [e6]
    unfold Dd.hd Wd.hd LM
    rw [e4, e5]
    subst hx' hd'
    simp only [List.length_append, List.length_singleton, hdv, en, er, fd, va, pt, hkv, hvv, hcv, hkp]
    rfl
  rw [e3]
  exact hM
set_option maxRecDepth 100000 in
set_option maxHeartbeats 1600000 in
theorem sys_end (x : Wd) (d : Dd) (c i : Nat) (ak ap av rv rp : Int) (at' rt : ByteArray) (rd drf' : Bool) (kns' V' : List Int) (T' : List ByteArray) (U' : List Bool) (er : Int) (fd : Bool) (va pt : Int) (ks vs : List Int) (cs : List (Int × Int)) (fr : List As) (w0 w : World) (B : Nat) (htab : Tab w0) (hB : B = w0.heap.size) (hc : c < 64) (hb : x.bs[c]? = some (i : Int)) (hd : x.ds[i]? = some d) (hlive : d.live) (hkp : x.kp = false)
    (hStands : x.wt = true → ak ≠ 1 → ∀ W, PgR x.gw x.tg x.tc x.ug x.uc T' U' W → Calls Tryd.prog 92 #[.pointer (some ⟨x.gw, 0, none⟩)] W fun e w' => e = .returned (.bool true) ∧ Below W.heap.size W w')
    (hnd : x.ds.length ≤ 100000000) (hnt : d.ts.length ≤ 100000000) (hnw : 0 ≤ x.now ∧ x.now ≤ 100000000000)
    (hNext : ∀ W, Calls Tryd.prog 29 #[.string d.f] W fun e w' => e = .returned (.tuple #[.agg #[.int .i64 ak, .int .i64 ap, .int .i64 av, .string at'], .int .i64 0]) ∧ Below W.heap.size W w')
    (hA : AccR d.k ak ap av at' x.T x.U x.V d.kns d.rf rv rp rt rd T' U' V' kns' drf')
    (hTell : ∀ W, Tab W → Calls Tryd.prog 70 #[.string d.f, .agg #[.int .i64 rv, .int .i64 rp, .string rt, .bool rd]] W fun e w' => FinR er fd va pt ks vs cs W w' e)
    (h : M w0 B w (x.as ++ fr)) :
    Calls Tryd.prog 63 #[.pointer (some ⟨x.gw, 0, none⟩), .int .i64 c] w fun e w' => (∃ u, e = .returned u) ∧ ∃ tm' kv vv cv, M w0 B w' (({ x with T := T', U := U', V := V', bs := x.bs.set c (-1), now := x.now + 1, rf := x.rf || drf', ds := x.ds.set i { d with tm := tm', f := ⟨#[]⟩, ts := d.ts ++ [x.now], kns := kns', rf := drf', en := true, er := er, fd := fd, va := va, pt := pt, kv := kv, vv := vv, cv := cv, ks := ks, vs := vs, cs := cs } } : Wd).as ++ fr) := by
  have hil := (List.getElem?_eq_some_iff.1 hd).1
  have e1 := x.split i d hd
  have hx : x.as = x.hd ++ ((x.ds.take i).flatMap Dd.as ++ ((d.hd ++ d.tl) ++ (x.ds.drop (i + 1)).flatMap Dd.as)) := by unfold Wd.as; rw [e1]
  rw [hx] at h
  have h1 := h.perm (perm_deed x.hd ((x.ds.take i).flatMap Dd.as) d.hd d.tl ((x.ds.drop (i + 1)).flatMap Dd.as) fr)
  obtain ⟨dg, dc, hdv⟩ := As.form (h1.get (i := 5) rfl) (show 0 < x.ds.length by omega)
  obtain ⟨en, her, hfd, hva, hpt, hkv, hvv, hcv, hks, hvs, hcs⟩ := hlive
  have hdp : (x.ds.map Dd.ptr)[i]? = some (.pointer (some ⟨d.gd, 0, none⟩)) := by rw [List.getElem?_map, hd]; rfl
  have hLM : d.hd ++ (x.hd ++ (d.tl ++ ((x.ds.take i).flatMap Dd.as ++ ((x.ds.drop (i + 1)).flatMap Dd.as ++ fr)))) = LM d.gd d.kg d.kc x.gw x.tg x.tc x.ug x.uc x.vg x.vc dg dc x.bg x.bc x.ds.length d.k d.key d.v d.f d.tm d.ts.length d.rf d.kns d.ts x.now x.puts x.rf x.wt false x.cv x.ov x.bs (x.ds.map Dd.ptr) x.T x.U x.V (d.tl ++ ((x.ds.take i).flatMap Dd.as ++ ((x.ds.drop (i + 1)).flatMap Dd.as ++ fr))) := by
    unfold Dd.hd Wd.hd LM
    rw [hdv, en, her, hfd, hva, hpt, hkv, hvv, hcv, hkp]
    rfl
  rw [hLM] at h1
  refine (move_end d.gd d.kg d.kc d.ts.length x.gw x.tg x.tc x.ug x.uc x.vg x.vc dg dc x.bg x.bc x.ds.length i c x.cv x.ov x.now x.puts d.k d.key d.v ak ap av rv rp d.f at' rt rd d.rf drf' x.rf x.wt d.kns kns' x.bs x.V V' (x.ds.map Dd.ptr) d.ts x.T T' x.U U' d.tm er fd va pt ks vs cs _ w0 w B htab hB hc hb hdp hnd (by simp) hnt hnw hNext
    (fun W ga hW => acc_legal hA hW)
    (fun W ga hW => acc_act hA hW)
    (fun W ga gr hW => acc_learns hA hW)
    (fun hw hk W ga gr hW => hStands hw hk W (LM.pg hW))
    hTell h1).mono ?_
  rintro e w' ⟨he, tm', kv, vv, cv, hM⟩
  refine ⟨he, tm', kv, vv, cv, ?_⟩
  obtain ⟨d', hd'⟩ : ∃ y : Dd, y = { d with tm := tm', f := ⟨#[]⟩, ts := d.ts ++ [x.now], kns := kns', rf := drf', en := true, er := er, fd := fd, va := va, pt := pt, kv := kv, vv := vv, cv := cv, ks := ks, vs := vs, cs := cs } := ⟨_, rfl⟩
  rw [← hd']
  obtain ⟨x', hx'⟩ : ∃ y : Wd, y = { x with T := T', U := U', V := V', bs := x.bs.set c (-1), now := x.now + 1, rf := x.rf || drf', ds := x.ds.set i d' } := ⟨_, rfl⟩
  rw [← hx']
  have hg : d'.gd = d.gd := by rw [hd']
  have e2 : x'.as = x'.hd ++ ((x.ds.take i).flatMap Dd.as ++ ((d'.hd ++ d'.tl) ++ (x.ds.drop (i + 1)).flatMap Dd.as)) := by
    unfold Wd.as
    rw [show x'.ds = x.ds.set i d' by rw [hx'], set_split _ _ _ hil, List.flatMap_append, List.flatMap_cons]
    rfl
  rw [e2]
  refine M.perm ?_ (perm_deed x'.hd ((x.ds.take i).flatMap Dd.as) d'.hd d'.tl ((x.ds.drop (i + 1)).flatMap Dd.as) fr).symm
  have e4 : x'.ds.map Dd.ptr = x.ds.map Dd.ptr := by rw [hx']; exact map_set_ptr x.ds i d d' hd hg
  have e5 : x'.ds.length = x.ds.length := by rw [hx']; simp
  have e3 : d'.tl ++ (d'.hd ++ (x'.hd ++ (d.tl ++ ((x.ds.take i).flatMap Dd.as ++ ((x.ds.drop (i + 1)).flatMap Dd.as ++ fr))))) = LE d.gd d.kg d.kc x.gw x.tg x.tc x.ug x.uc x.vg x.vc dg dc x.bg x.bc x.ds.length d.k d.key d.v tm' (d.ts.length + 1) drf' er fd va pt kv vv cv ks vs cs kns' (d.ts ++ [x.now]) (x.now + 1) x.puts (x.rf || drf') x.wt false x.cv x.ov (x.bs.set c (-1)) (x.ds.map Dd.ptr) T' U' V' (d.tl ++ ((x.ds.take i).flatMap Dd.as ++ ((x.ds.drop (i + 1)).flatMap Dd.as ++ fr))) := by
    obtain ⟨z, hz⟩ : ∃ z, d.tl ++ ((x.ds.take i).flatMap Dd.as ++ ((x.ds.drop (i + 1)).flatMap Dd.as ++ fr)) = z := ⟨_, rfl⟩
    rw [hz]
    unfold Dd.hd Dd.tl Wd.hd LE
    rw [e4, e5]
    subst hx' hd'
    simp only [List.length_append, List.length_singleton, hdv, hkp]
    rfl
  rw [← e3] at hM
  have h5 := hM.perm (l' := d'.tl ++ (d'.hd ++ (x'.hd ++ ((x.ds.take i).flatMap Dd.as ++ ((x.ds.drop (i + 1)).flatMap Dd.as ++ fr)))) ++ d.tl) (by
    refine (List.perm_append_comm).trans ?_
    refine (List.perm_append_comm_assoc _ _ _).trans (List.Perm.append_left _ ?_)
    refine (List.perm_append_comm_assoc _ _ _).trans (List.Perm.append_left _ ?_)
    exact List.perm_append_comm_assoc _ _ _)
  have h6 := h5.sub (List.sublist_append_left _ _)
  exact h6.perm ((List.Perm.append_left _ (List.perm_append_comm_assoc _ _ _)).trans (List.perm_append_comm_assoc _ _ _))
end Go.Proofs.YtjpgldeeopmbgaaDoor.Sap
