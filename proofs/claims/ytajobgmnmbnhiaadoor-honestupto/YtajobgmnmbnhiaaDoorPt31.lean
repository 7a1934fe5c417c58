/- WHAT IS PROVED HERE: saplingkeep's world with all its operations as it lies in memory, and one access of any client's operation as a step of it. Conditions: what Next and Tell answer at the operation's frame is given; the access is one that the document lets. -/
import Derived.Test.YtajobgmnmbnhiaaDoorPt28
namespace Go.Proofs.YtajobgmnmbnhiaaDoor.Sap
open Go.RowKit
structure Dd where
  gd : Nat
  kg : Nat
  kc : Nat
  tm : Value
  kv : Value
  vv : Value
  cv : Value
  k : Int
  key : Int
  v : Int
  f : ByteArray
  ts : List Int
  kns : List Int
  rf : Bool
  en : Bool
  er : Int
  fd : Bool
  va : Int
  pt : Int
  ks : List Int
  vs : List Int
  cs : List (Int × Int)
def Dd.hd (d : Dd) : List As :=
  [.blk d.gd (DC d.k d.key d.v d.f d.tm (.slice (some ⟨d.kg, 0, none⟩) 64 d.kc) d.rf d.en d.er d.fd d.va d.pt d.kv d.vv d.cv) 84, .row 3 1 (.slice (some ⟨d.kg, 0, none⟩) 64 d.kc) 64 (ints d.kns), .row 3 1 d.tm d.ts.length (ints d.ts)]
def Dd.tl (d : Dd) : List As :=
  [.row 3 1 d.kv d.ks.length (ints d.ks), .row 3 1 d.vv d.vs.length (ints d.vs), .row 142 2 d.cv d.cs.length (cutc d.cs)]
def Dd.as (d : Dd) : List As := d.hd ++ d.tl
def Dd.live (d : Dd) : Prop := d.en = false ∧ d.er = 0 ∧ d.fd = false ∧ d.va = 0 ∧ d.pt = 0 ∧ d.kv = .slice none 0 0 ∧ d.vv = .slice none 0 0 ∧ d.cv = .slice none 0 0 ∧ d.ks = [] ∧ d.vs = [] ∧ d.cs = []
def Dd.ptr (d : Dd) : Value := .pointer (some ⟨d.gd, 0, none⟩)
structure Wd where
  gw : Nat
  tg : Nat
  tc : Nat
  ug : Nat
  uc : Nat
  vg : Nat
  vc : Nat
  bg : Nat
  bc : Nat
  dv : Value
  T : List ByteArray
  U : List Bool
  V : List Int
  bs : List Int
  now : Int
  puts : Int
  rf : Bool
  wt : Bool
  kp : Bool
  cv : Value
  ov : Value
  ds : List Dd
def Wd.hd (x : Wd) : List As :=
  [.blk x.gw (WC (.slice (some ⟨x.tg, 0, none⟩) 64 x.tc) (.slice (some ⟨x.ug, 0, none⟩) 64 x.uc) (.slice (some ⟨x.vg, 0, none⟩) 64 x.vc) x.dv (.slice (some ⟨x.bg, 0, none⟩) 64 x.bc) x.now x.puts x.rf false x.wt false x.kp x.cv x.ov false) 58,
   .row 3 1 (.slice (some ⟨x.bg, 0, none⟩) 64 x.bc) 64 (ints x.bs), .row 81 1 x.dv x.ds.length (x.ds.map Dd.ptr), .row 9 1 (.slice (some ⟨x.tg, 0, none⟩) 64 x.tc) 64 (strs x.T), .row 4 1 (.slice (some ⟨x.ug, 0, none⟩) 64 x.uc) 64 (bools x.U), .row 3 1 (.slice (some ⟨x.vg, 0, none⟩) 64 x.vc) 64 (ints x.V)]
def Wd.as (x : Wd) : List As := x.hd ++ x.ds.flatMap Dd.as
theorem perm_deed (W A D N C fr : List As) : (D ++ (W ++ (N ++ (A ++ (C ++ fr))))).Perm ((W ++ (A ++ ((D ++ N) ++ C))) ++ fr) := by
  have h1 : (W ++ (A ++ ((D ++ N) ++ C))) ++ fr = W ++ (A ++ ((D ++ N) ++ (C ++ fr))) := by simp
  rw [h1]
  refine (List.perm_append_comm_assoc D W _).trans (List.Perm.append_left W ?_)
  rw [← List.append_assoc D N]
  exact List.perm_append_comm_assoc (D ++ N) A _
theorem Wd.split (x : Wd) (i : Nat) (d : Dd) (hd : x.ds[i]? = some d) : x.ds.flatMap Dd.as = (x.ds.take i).flatMap Dd.as ++ ((d.hd ++ d.tl) ++ (x.ds.drop (i + 1)).flatMap Dd.as) := by
  have hl := (List.getElem?_eq_some_iff.1 hd).1
  have e : x.ds = x.ds.take i ++ d :: x.ds.drop (i + 1) := by
    rw [← (List.getElem?_eq_some_iff.1 hd).2, List.getElem_cons_drop, List.take_append_drop]
  refine (congrArg (List.flatMap Dd.as) e).trans ?_
  rw [List.flatMap_append, List.flatMap_cons]
  rfl
theorem set_split {α : Type} (l : List α) (i : Nat) (d' : α) (hi : i < l.length) : l.set i d' = l.take i ++ d' :: l.drop (i + 1) := by
  rw [List.set_eq_take_append_cons_drop, if_pos hi]
theorem map_set_ptr (l : List Dd) (i : Nat) (d d' : Dd) (hd : l[i]? = some d) (hp : d'.gd = d.gd) : (l.set i d').map Dd.ptr = l.map Dd.ptr := by
  rw [List.map_set]
  have hi := (List.getElem?_eq_some_iff.1 hd).1
  have e : d'.ptr = (l.map Dd.ptr)[i]'(by simpa using hi) := by
    rw [List.getElem_map, (List.getElem?_eq_some_iff.1 hd).2]
    unfold Dd.ptr; rw [hp]
  rw [e, List.set_getElem_self]
theorem LM.pg {w0 W : World} {B : Nat} {a b : As} {gd kg kc gw tg tc ug uc vg vc dg dc bg bc nd : Nat} {k key v : Int} {f : ByteArray} {tm : Value} {nt : Nat} {drf : Bool} {kns ts : List Int} {now puts : Int} {rf wt kp : Bool} {cv ov : Value} {bs : List Int} {ds : List Value} {T : List ByteArray} {U : List Bool} {V : List Int} {fr : List As} (h : M w0 B W (a :: b :: LM gd kg kc gw tg tc ug uc vg vc dg dc bg bc nd k key v f tm nt drf kns ts now puts rf wt kp cv ov bs ds T U V fr)) : PgR gw tg tc ug uc T U W := by
  refine ⟨h.cell (i := 5) rfl 0 _ rfl, h.cell (i := 5) rfl 1 _ rfl, fun p hp => ?_⟩
  have h1 := (h.get (i := 8) rfl).own.1
  have h2 := (h.get (i := 9) rfl).own.1
  simp [strs] at h1
  simp [bools] at h2
  have ht : T[p]? = some (T[p]'(by omega)) := List.getElem?_eq_getElem (by omega)
  have hu : U[p]? = some (U[p]'(by omega)) := List.getElem?_eq_getElem (by omega)
  exact ⟨_, _, ht, hu, h.rowCell (i := 8) rfl p _ (strs_get ht), h.rowCell (i := 9) rfl p _ (bools_get hu)⟩
set_option maxRecDepth 100000 in
set_option maxHeartbeats 1600000 in
theorem sys_go (x : Wd) (d : Dd) (c i : Nat) (ak ap av rv rp : Int) (at' rt : ByteArray) (rd drf' : Bool) (kns' V' : List Int) (T' : List ByteArray) (U' : List Bool) (P : ByteArray → Prop) (fr : List As) (w0 w : World) (B : Nat) (htab : Tab w0) (hB : B = w0.heap.size) (hc : c < 64) (hb : x.bs[c]? = some (i : Int)) (hd : x.ds[i]? = some d) (hlive : d.live) (hkp : x.kp = false)
    (hStands : x.wt = true → ak ≠ 1 → ∀ W, PgR x.gw x.tg x.tc x.ug x.uc T' U' W → Calls Tryd.prog 84 #[.pointer (some ⟨x.gw, 0, none⟩)] W fun e w' => e = .returned (.bool true) ∧ Below W.heap.size W w')
    (hnd : x.ds.length ≤ 100000000) (hnt : d.ts.length ≤ 100000000) (hnw : 0 ≤ x.now ∧ x.now ≤ 100000000000)
    (hNext : ∀ W, Tab W → Calls Tryd.prog 26 #[.string d.f] W fun e w' => e = .returned (.tuple #[.agg #[.int .i64 ak, .int .i64 ap, .int .i64 av, .string at'], .int .i64 0]) ∧ Below W.heap.size W w')
    (hA : AccR d.k ak ap av at' x.T x.U x.V d.kns d.rf rv rp rt rd T' U' V' kns' drf')
    (hTell : ∀ W, Tab W → Calls Tryd.prog 61 #[.string d.f, .agg #[.int .i64 rv, .int .i64 rp, .string rt, .bool rd]] W fun e w' => GoR P W w' e)
    (h : M w0 B w (x.as ++ fr)) :
    Calls Tryd.prog 56 #[.pointer (some ⟨x.gw, 0, none⟩), .int .i64 c] w fun e w' => (∃ u, e = .returned u) ∧ ∃ tm' f', P f' ∧ M w0 B w' (({ x with T := T', U := U', V := V', now := x.now + 1, rf := x.rf || drf', ds := x.ds.set i { d with tm := tm', f := f', ts := d.ts ++ [x.now], kns := kns', rf := drf' } } : Wd).as ++ fr) := by
  have hil := (List.getElem?_eq_some_iff.1 hd).1
  have e1 := x.split i d hd
  have hx : x.as = x.hd ++ ((x.ds.take i).flatMap Dd.as ++ ((d.hd ++ d.tl) ++ (x.ds.drop (i + 1)).flatMap Dd.as)) := by unfold Wd.as; rw [e1]
  rw [hx] at h
  have h1 := h.perm (perm_deed x.hd ((x.ds.take i).flatMap Dd.as) d.hd d.tl ((x.ds.drop (i + 1)).flatMap Dd.as) fr)
  obtain ⟨dg, dc, hdv⟩ := As.form (h1.get (i := 5) rfl) (show 0 < x.ds.length by omega)
  obtain ⟨en, er, fd, va, pt, hkv, hvv, hcv, hks, hvs, hcs⟩ := hlive
  have hdp : (x.ds.map Dd.ptr)[i]? = some (.pointer (some ⟨d.gd, 0, none⟩)) := by rw [List.getElem?_map, hd]; rfl
  have hLM : d.hd ++ (x.hd ++ (d.tl ++ ((x.ds.take i).flatMap Dd.as ++ ((x.ds.drop (i + 1)).flatMap Dd.as ++ fr)))) = LM d.gd d.kg d.kc x.gw x.tg x.tc x.ug x.uc x.vg x.vc dg dc x.bg x.bc x.ds.length d.k d.key d.v d.f d.tm d.ts.length d.rf d.kns d.ts x.now x.puts x.rf x.wt false x.cv x.ov x.bs (x.ds.map Dd.ptr) x.T x.U x.V (d.tl ++ ((x.ds.take i).flatMap Dd.as ++ ((x.ds.drop (i + 1)).flatMap Dd.as ++ fr))) := by
    unfold Dd.hd Wd.hd LM
    rw [hdv, en, er, fd, va, pt, hkv, hvv, hcv, hkp]
    rfl
  rw [hLM] at h1
  refine (move_go d.gd d.kg d.kc d.ts.length x.gw x.tg x.tc x.ug x.uc x.vg x.vc dg dc x.bg x.bc x.ds.length i c x.cv x.ov x.now x.puts d.k d.key d.v ak ap av rv rp d.f at' rt rd d.rf drf' x.rf x.wt d.kns kns' x.bs x.V V' (x.ds.map Dd.ptr) d.ts x.T T' x.U U' d.tm P _ w0 w B htab hB hc hb hdp hnd (by simp) hnt hnw hNext
    (fun W ga hW => acc_legal hA hW)
    (fun W ga hW => acc_act hA hW)
    (fun W ga gr hW => acc_learns hA hW)
    (fun hw hk W ga gr hW => hStands hw hk W (LM.pg hW))
    hTell h1).mono ?_
  rintro e w' ⟨he, tm', f', hP, hM⟩
  refine ⟨he, tm', f', hP, ?_⟩
  obtain ⟨d', hd'⟩ : ∃ y : Dd, y = { d with tm := tm', f := f', ts := d.ts ++ [x.now], kns := kns', rf := drf' } := ⟨_, rfl⟩
  rw [← hd']
  obtain ⟨x', hx'⟩ : ∃ y : Wd, y = { x with T := T', U := U', V := V', now := x.now + 1, rf := x.rf || drf', ds := x.ds.set i d' } := ⟨_, rfl⟩
  rw [← hx']
  have hg : d'.gd = d.gd := by rw [hd']
  have e2 : x'.as = x'.hd ++ ((x.ds.take i).flatMap Dd.as ++ ((d'.hd ++ d'.tl) ++ (x.ds.drop (i + 1)).flatMap Dd.as)) := by
    unfold Wd.as
    rw [show x'.ds = x.ds.set i d' by rw [hx'], set_split _ _ _ hil, List.flatMap_append, List.flatMap_cons]
    rfl
  rw [e2]
  refine M.perm ?_ (perm_deed x'.hd ((x.ds.take i).flatMap Dd.as) d'.hd d'.tl ((x.ds.drop (i + 1)).flatMap Dd.as) fr).symm
  have e3 : d'.hd ++ (x'.hd ++ (d'.tl ++ ((x.ds.take i).flatMap Dd.as ++ ((x.ds.drop (i + 1)).flatMap Dd.as ++ fr)))) = LM d.gd d.kg d.kc x.gw x.tg x.tc x.ug x.uc x.vg x.vc dg dc x.bg x.bc x.ds.length d.k d.key d.v f' tm' (d.ts.length + 1) drf' kns' (d.ts ++ [x.now]) (x.now + 1) x.puts (x.rf || drf') x.wt false x.cv x.ov x.bs (x.ds.map Dd.ptr) T' U' V' (d.tl ++ ((x.ds.take i).flatMap Dd.as ++ ((x.ds.drop (i + 1)).flatMap Dd.as ++ fr))) := by
    have e4 : x'.ds.map Dd.ptr = x.ds.map Dd.ptr := by rw [hx']; exact map_set_ptr x.ds i d d' hd hg
    have e5 : x'.ds.length = x.ds.length := by rw [hx']; simp
    have e6 : d'.tl = d.tl := by rw [hd']; rfl
    rw [e6]
    unfold Dd.hd Wd.hd LM
    rw [e4, e5]
    subst hx' hd'
    simp only [List.length_append, List.length_singleton, hdv, en, er, fd, va, pt, hkv, hvv, hcv, hkp]
    rfl
  rw [e3]
  exact hM
set_option maxRecDepth 100000 in
set_option maxHeartbeats 1600000 in
theorem sys_end (x : Wd) (d : Dd) (c i : Nat) (ak ap av rv rp : Int) (at' rt : ByteArray) (rd drf' : Bool) (kns' V' : List Int) (T' : List ByteArray) (U' : List Bool) (er : Int) (fd : Bool) (va pt : Int) (ks vs : List Int) (cs : List (Int × Int)) (fr : List As) (w0 w : World) (B : Nat) (htab : Tab w0) (hB : B = w0.heap.size) (hc : c < 64) (hb : x.bs[c]? = some (i : Int)) (hd : x.ds[i]? = some d) (hlive : d.live) (hkp : x.kp = false)
    (hStands : x.wt = true → ak ≠ 1 → ∀ W, PgR x.gw x.tg x.tc x.ug x.uc T' U' W → Calls Tryd.prog 84 #[.pointer (some ⟨x.gw, 0, none⟩)] W fun e w' => e = .returned (.bool true) ∧ Below W.heap.size W w')
    (hnd : x.ds.length ≤ 100000000) (hnt : d.ts.length ≤ 100000000) (hnw : 0 ≤ x.now ∧ x.now ≤ 100000000000)
    (hNext : ∀ W, Tab W → Calls Tryd.prog 26 #[.string d.f] W fun e w' => e = .returned (.tuple #[.agg #[.int .i64 ak, .int .i64 ap, .int .i64 av, .string at'], .int .i64 0]) ∧ Below W.heap.size W w')
    (hA : AccR d.k ak ap av at' x.T x.U x.V d.kns d.rf rv rp rt rd T' U' V' kns' drf')
    (hTell : ∀ W, Tab W → Calls Tryd.prog 61 #[.string d.f, .agg #[.int .i64 rv, .int .i64 rp, .string rt, .bool rd]] W fun e w' => FinR er fd va pt ks vs cs W w' e)
    (h : M w0 B w (x.as ++ fr)) :
    Calls Tryd.prog 56 #[.pointer (some ⟨x.gw, 0, none⟩), .int .i64 c] w fun e w' => (∃ u, e = .returned u) ∧ ∃ tm' kv vv cv, M w0 B w' (({ x with T := T', U := U', V := V', bs := x.bs.set c (-1), now := x.now + 1, rf := x.rf || drf', ds := x.ds.set i { d with tm := tm', f := ⟨#[]⟩, ts := d.ts ++ [x.now], kns := kns', rf := drf', en := true, er := er, fd := fd, va := va, pt := pt, kv := kv, vv := vv, cv := cv, ks := ks, vs := vs, cs := cs } } : Wd).as ++ fr) := by
  have hil := (List.getElem?_eq_some_iff.1 hd).1
  have e1 := x.split i d hd
  have hx : x.as = x.hd ++ ((x.ds.take i).flatMap Dd.as ++ ((d.hd ++ d.tl) ++ (x.ds.drop (i + 1)).flatMap Dd.as)) := by unfold Wd.as; rw [e1]
  rw [hx] at h
  have h1 := h.perm (perm_deed x.hd ((x.ds.take i).flatMap Dd.as) d.hd d.tl ((x.ds.drop (i + 1)).flatMap Dd.as) fr)
  obtain ⟨dg, dc, hdv⟩ := As.form (h1.get (i := 5) rfl) (show 0 < x.ds.length by omega)
  obtain ⟨en, her, hfd, hva, hpt, hkv, hvv, hcv, hks, hvs, hcs⟩ := hlive
  have hdp : (x.ds.map Dd.ptr)[i]? = some (.pointer (some ⟨d.gd, 0, none⟩)) := by rw [List.getElem?_map, hd]; rfl
  have hLM : d.hd ++ (x.hd ++ (d.tl ++ ((x.ds.take i).flatMap Dd.as ++ ((x.ds.drop (i + 1)).flatMap Dd.as ++ fr)))) = LM d.gd d.kg d.kc x.gw x.tg x.tc x.ug x.uc x.vg x.vc dg dc x.bg x.bc x.ds.length d.k d.key d.v d.f d.tm d.ts.length d.rf d.kns d.ts x.now x.puts x.rf x.wt false x.cv x.ov x.bs (x.ds.map Dd.ptr) x.T x.U x.V (d.tl ++ ((x.ds.take i).flatMap Dd.as ++ ((x.ds.drop (i + 1)).flatMap Dd.as ++ fr))) := by
    unfold Dd.hd Wd.hd LM
    rw [hdv, en, her, hfd, hva, hpt, hkv, hvv, hcv, hkp]
    rfl
  rw [hLM] at h1
  refine (move_end d.gd d.kg d.kc d.ts.length x.gw x.tg x.tc x.ug x.uc x.vg x.vc dg dc x.bg x.bc x.ds.length i c x.cv x.ov x.now x.puts d.k d.key d.v ak ap av rv rp d.f at' rt rd d.rf drf' x.rf x.wt d.kns kns' x.bs x.V V' (x.ds.map Dd.ptr) d.ts x.T T' x.U U' d.tm er fd va pt ks vs cs _ w0 w B htab hB hc hb hdp hnd (by simp) hnt hnw hNext
    (fun W ga hW => acc_legal hA hW)
    (fun W ga hW => acc_act hA hW)
    (fun W ga gr hW => acc_learns hA hW)
    (fun hw hk W ga gr hW => hStands hw hk W (LM.pg hW))
    hTell h1).mono ?_
  rintro e w' ⟨he, tm', kv, vv, cv, hM⟩
  refine ⟨he, tm', kv, vv, cv, ?_⟩
  obtain ⟨d', hd'⟩ : ∃ y : Dd, y = { d with tm := tm', f := ⟨#[]⟩, ts := d.ts ++ [x.now], kns := kns', rf := drf', en := true, er := er, fd := fd, va := va, pt := pt, kv := kv, vv := vv, cv := cv, ks := ks, vs := vs, cs := cs } := ⟨_, rfl⟩
  rw [← hd']
  obtain ⟨x', hx'⟩ : ∃ y : Wd, y = { x with T := T', U := U', V := V', bs := x.bs.set c (-1), now := x.now + 1, rf := x.rf || drf', ds := x.ds.set i d' } := ⟨_, rfl⟩
  rw [← hx']
  have hg : d'.gd = d.gd := by rw [hd']
  have e2 : x'.as = x'.hd ++ ((x.ds.take i).flatMap Dd.as ++ ((d'.hd ++ d'.tl) ++ (x.ds.drop (i + 1)).flatMap Dd.as)) := by
    unfold Wd.as
    rw [show x'.ds = x.ds.set i d' by rw [hx'], set_split _ _ _ hil, List.flatMap_append, List.flatMap_cons]
    rfl
  rw [e2]
  refine M.perm ?_ (perm_deed x'.hd ((x.ds.take i).flatMap Dd.as) d'.hd d'.tl ((x.ds.drop (i + 1)).flatMap Dd.as) fr).symm
  have e4 : x'.ds.map Dd.ptr = x.ds.map Dd.ptr := by rw [hx']; exact map_set_ptr x.ds i d d' hd hg
  have e5 : x'.ds.length = x.ds.length := by rw [hx']; simp
  have e3 : d'.tl ++ (d'.hd ++ (x'.hd ++ (d.tl ++ ((x.ds.take i).flatMap Dd.as ++ ((x.ds.drop (i + 1)).flatMap Dd.as ++ fr))))) = LE d.gd d.kg d.kc x.gw x.tg x.tc x.ug x.uc x.vg x.vc dg dc x.bg x.bc x.ds.length d.k d.key d.v tm' (d.ts.length + 1) drf' er fd va pt kv vv cv ks vs cs kns' (d.ts ++ [x.now]) (x.now + 1) x.puts (x.rf || drf') x.wt false x.cv x.ov (x.bs.set c (-1)) (x.ds.map Dd.ptr) T' U' V' (d.tl ++ ((x.ds.take i).flatMap Dd.as ++ ((x.ds.drop (i + 1)).flatMap Dd.as ++ fr))) := by
    obtain ⟨z, hz⟩ : ∃ z, d.tl ++ ((x.ds.take i).flatMap Dd.as ++ ((x.ds.drop (i + 1)).flatMap Dd.as ++ fr)) = z := ⟨_, rfl⟩
    rw [hz]
    unfold Dd.hd Dd.tl Wd.hd LE
    rw [e4, e5]
    subst hx' hd'
    simp only [List.length_append, List.length_singleton, hdv, hkp]
    rfl
  rw [← e3] at hM
  have h5 := hM.perm (l' := d'.tl ++ (d'.hd ++ (x'.hd ++ ((x.ds.take i).flatMap Dd.as ++ ((x.ds.drop (i + 1)).flatMap Dd.as ++ fr)))) ++ d.tl) (by
    refine (List.perm_append_comm).trans ?_
    refine (List.perm_append_comm_assoc _ _ _).trans (List.Perm.append_left _ ?_)
    refine (List.perm_append_comm_assoc _ _ _).trans (List.Perm.append_left _ ?_)
    exact List.perm_append_comm_assoc _ _ _)
  have h6 := h5.sub (List.sublist_append_left _ _)
  exact h6.perm ((List.Perm.append_left _ (List.perm_append_comm_assoc _ _ _)).trans (List.perm_append_comm_assoc _ _ _))
set_option maxRecDepth 100000 in
set_option maxHeartbeats 6400000 in
theorem alone_gen (c gw : Nat) (I : Wd → Prop) (rk : Wd → Nat) (fr : List As) (w0 w : World) (B : Nat) (x0 : Wd) (hc : c < 64) (hgw : ∀ x, I x → x.gw = gw) (hbs : ∀ x, I x → x.bs[c]? = some (-1) ∨ (∃ i : Nat, x.bs[c]? = some (i : Int)) ∧ 0 < rk x)
    (hstep : ∀ x (i : Nat) W, I x → x.bs[c]? = some (i : Int) → M w0 B W (x.as ++ fr) → Calls Tryd.prog 56 #[.pointer (some ⟨gw, 0, none⟩), .int .i64 c] W fun e w' => (∃ u, e = .returned u) ∧ ∃ x', I x' ∧ rk x' < rk x ∧ M w0 B w' (x'.as ++ fr))
    (hI : I x0) (h0 : rk x0 ≤ 1000) (h : M w0 B w (x0.as ++ fr)) :
    Calls Tryd.prog 37 #[.pointer (some ⟨gw, 0, none⟩), .int .i64 c] w fun e w' => (∃ u, e = .returned u) ∧ ∃ x', I x' ∧ x'.bs[c]? = some (-1) ∧ M w0 B w' (x'.as ++ fr) := by
  have hc0 : (0 : Int) ≤ (c : Int) := by omega
  have hc1 : (c : Int) < 64 := by omega
  have HM := hideIt h
  have HI := hideIt hI
  have HGW := hideIt hgw
  have HBS := hideIt hbs
  have HS := hideIt hstep
  clear h hI hgw hbs hstep
  go_enter Tryd.func37, Tryd.ntmps37
  go_wp2
  go_loopw [4] (fun y wr => ∃ (j n : Nat) (x : Wd), y = .int .i64 j ∧ j + n ≤ 1000 ∧ Hid (rk x = n) ∧ Hid (I x) ∧ Hid (M w0 B wr (x.as ++ fr))) (fun i _ => 1000 - (intOf i).toNat)
  case atStart => exact ⟨0, rk x0, x0, rfl, by omega, rfl, HI.out, HM.out⟩
  case round =>
    clear HM HI
    obtain ⟨j, n, x, rfl, hj, hr, hI, hM⟩ := hrel
    have hg := HGW.out x hI.out
    subst hg
    have g14 := hM.out.cell (i := 0) rfl 14 (.bool false) rfl
    have g4 := hM.out.cell (i := 0) rfl 4 (.slice (some ⟨x.bg, 0, none⟩) 64 x.bc) rfl
    rcases HBS.out x hI.out with hb | ⟨⟨i, hb⟩, hpos⟩
    · have b0 := hM.out.rowCell (i := 1) rfl c (.int .i64 (-1)) (ints_get hb)
      have e14 := hM.out.free (i := 0) rfl 14
      have S1 := hideIt (hM.out.store (i := 0) (j := 14) rfl (.bool false) rfl)
      have HB := hideIt hb
      clear hM hb
      by_cases hj1 : (j : Int) < 1000
      · go_wp2
        exact bodyPost_end (results_none Tryd.results37 _ _ _) rfl ⟨⟨_, rfl⟩, x, hI.out, HB.out, S1.out⟩
      · go_wp2
        exact bodyPost_end (results_none Tryd.results37 _ _ _) rfl ⟨⟨_, rfl⟩, x, hI.out, HB.out, S1.out⟩
    · have b0 := hM.out.rowCell (i := 1) rfl c (.int .i64 i) (ints_get hb)
      rw [hr.out] at hpos
      have hj1 : (j : Int) < 1000 := by omega
      have hi0 : (0 : Int) ≤ (i : Int) := by omega
      have CM := hideIt (HS.out x i wr hI.out hb hM.out)
      clear hM hb hI
      go_wp2_with fail
      refine CM.out.mono ?_
      rintro e w1 ⟨⟨u, rfl⟩, x', hI', hr', hM'⟩
      have HI2 := hideIt hI'
      have HM2 := hideIt hM'
      rw [hr.out] at hr'
      clear CM g14 g4 b0 hI' hM'
      go_wp2
      go_roundw
      case rel => exact ⟨j + 1, rk x', x', by go_num, by omega, rfl, HI2.out, HM2.out⟩
      case measure => simp [intOf]; omega
def pu (k puts : Int) : Int := if k = 2 then puts + 1 else puts
def BegQ (gw bg bc nd c : Nat) (tv uv vv cv ov : Value) (now puts : Int) (rf il wt bk kp bad : Bool) (xs ds : List Value) (k key v : Int) (fr : List As) (w0 w' : World) (B : Nat) (P : ByteArray → Prop) : Prop :=
  ∃ (gd : Nat) (f : ByteArray), P f ∧ ∃ (kv dv' : Value),
      M w0 B w' (.blk gd (DC k key v f (.slice none 0 0) kv false false 0 false 0 0 (.slice none 0 0) (.slice none 0 0) (.slice none 0 0)) 84 :: .row 3 1 kv 64 (List.replicate 64 (.int .i64 (-1))) :: .blk gw (WC tv uv vv dv' (.slice (some ⟨bg, 0, none⟩) 64 bc) now (pu k puts) rf il wt bk kp cv ov bad) 58 :: .row 3 1 (.slice (some ⟨bg, 0, none⟩) 64 bc) 64 (xs.set c (.int .i64 nd)) :: .row 81 1 dv' (nd + 1) (ds ++ [.pointer (some ⟨gd, 0, none⟩)]) :: fr)
set_option maxRecDepth 100000 in
set_option maxHeartbeats 6400000 in
theorem begin_gen (gw bg bc nd c : Nat) (tv uv vv dv cv ov : Value) (now puts : Int) (rf il wt bk kp bad : Bool) (xs ds : List Value) (k key v : Int) (fr : List As) (w0 w : World) (B : Nat) (P : ByteArray → Prop) (htab : Tab w0) (hB : B = w0.heap.size) (hc : c < 64) (hp0 : 0 ≤ puts) (hp1 : puts ≤ 100000000)
    (hBegin : ∀ W, Tab W → Calls Tryd.prog 21 #[.agg #[.int .i64 k, .int .i64 key, .int .i64 v]] W fun e w' => (∃ f : ByteArray, e = .returned (.tuple #[.string f, .int .i64 0]) ∧ P f) ∧ Below W.heap.size W w') (hnd : nd ≤ 100000000)
    (h : M w0 B w (.blk gw (WC tv uv vv dv (.slice (some ⟨bg, 0, none⟩) 64 bc) now puts rf il wt bk kp cv ov bad) 58 :: .row 3 1 (.slice (some ⟨bg, 0, none⟩) 64 bc) 64 xs :: .row 81 1 dv nd ds :: fr)) :
    Calls Tryd.prog 55 #[.pointer (some ⟨gw, 0, none⟩), .int .i64 c, .agg #[.int .i64 k, .int .i64 key, .int .i64 v]] w fun e w' => (∃ u, e = .returned u) ∧ BegQ gw bg bc nd c tv uv vv cv ov now puts rf il wt bk kp bad xs ds k key v fr w0 w' B P := by
  obtain ⟨i0, hi0, hz0, hz1, hz2⟩ := info_parts infoInt
  obtain ⟨j0, hj0, hy0, hy1, hy2⟩ := info_parts infoDeed
  obtain ⟨da, dc, rfl⟩ := As.form0 (h.get (i := 2) rfl)
  have hc0 : (0 : Int) ≤ (c : Int) := by omega
  have hc1 : (c : Int) < 64 := by omega
  have A0 := hideIt (h.alloc #[.int .i64 k, .int .i64 key, .int .i64 v] 37)
  have HO := hideIt hBegin
  have HT : Hid (∀ W l, M w0 B W l → Tab W) := fun W l hm => htab.below (hB ▸ hm.bl)
  clear h hBegin htab hB
  go_enter Tryd.func55, Tryd.ntmps55
  go_wp2_with fail
  refine (HO.out _ (HT.out _ _ A0.out)).mono ?_
  rintro e w1 ⟨⟨f, rfl, hf⟩, hb⟩
  have HF := hideIt hf
  have A1 := hideIt (A0.out.below hb)
  obtain ⟨go, hgo⟩ : ∃ g, w.heap.size = g := ⟨_, rfl⟩
  rw [hgo] at A1 ⊢
  clear hf hb A0 hgo
  have p0 := A1.out.cell (i := 0) rfl 0 (.int .i64 k) rfl
  have p1 := A1.out.cell (i := 0) rfl 1 (.int .i64 key) rfl
  have p2 := A1.out.cell (i := 0) rfl 2 (.int .i64 v) rfl
  have A2 := hideIt (M.rowNil (e := 3) (z := 1) (A1.out.alloc (DC k key v f (.slice none 0 0) (.slice none 0 0) false false 0 false 0 0 (.slice none 0 0) (.slice none 0 0) (.slice none 0 0)) 84))
  go_wp2
  obtain ⟨gd, hgd⟩ : ∃ g, w1.heap.size = g := ⟨_, rfl⟩
  rw [hgd] at A2 ⊢
  clear hgd p0 p1 p2 A1
  go_loopw [9] (fun i wr => ∃ j : Nat, ∃ kv : Value, j ≤ 64 ∧ i = .int .i64 j ∧ Hid (M w0 B wr (.blk gd (DC k key v f (.slice none 0 0) kv false false 0 false 0 0 (.slice none 0 0) (.slice none 0 0) (.slice none 0 0)) 84 :: .row 3 1 kv j (List.replicate j (.int .i64 (-1))) :: .blk go #[.int .i64 k, .int .i64 key, .int .i64 v] 37 :: .blk gw (WC tv uv vv (.slice da nd dc) (.slice (some ⟨bg, 0, none⟩) 64 bc) now puts rf il wt bk kp cv ov bad) 58 :: .row 3 1 (.slice (some ⟨bg, 0, none⟩) 64 bc) 64 xs :: .row 81 1 (.slice da nd dc) nd ds :: fr))) (fun i _ => 64 - (intOf i).toNat)
  case atStart => exact ⟨0, _, Nat.zero_le _, rfl, A2.out⟩
  case round =>
    clear A2
    obtain ⟨j, kv, hj, rfl, hM⟩ := hrel
    obtain ⟨ka, kc, rfl⟩ := As.form0 (hM.out.get (i := 1) rfl)
    have hsz := hM.out.lt (i := 0) rfl
    have q5 := hM.out.cell (i := 0) rfl 5 (.slice ka j kc) rfl
    have f5 := hM.out.free (i := 0) rfl 5
    by_cases hlt : j < 64
    · have hjj : (j : Int) < 64 := by omega
      go_wp2_with (at_builtin; refine wpList_append_lies _ rfl _ _ 22 rfl B 3 i0 (.int .i64 0) 1 8 Tryd.underlying22 hi0 hz0 hz1 hz2 rfl (by decide) _ j (List.replicate j (.int .i64 (-1))) rfl (World.ownsRow.alloc (hM.out.get (i := 1) rfl) _) ⟨_, 0, none⟩ 1 1 [.int .i64 (-1)] rfl rfl (news_one _ _ _) (by simp [Value.oneCell']) (by omega) (by unfold maxLen; omega) (by omega) (by have := hM.out.sz; simp at this ⊢; omega) _ rfl ?_; intro g1 cap1 w5 hown hgrow hat hlt1; rw [rep_snoc] at hown; have hm := (hM.out.allocd _).lies (i := 1) rfl hown hgrow hat; clear q5 f5 hown hgrow hat; have q5 := hm.cell (i := 0) rfl 5 (.slice ka j kc) rfl; have f5 := hm.free (i := 0) rfl 5; have H1 := hideIt (hm.store (i := 0) (j := 5) rfl (.slice (some ⟨g1, 0, none⟩) (j + 1) cap1) rfl); clear hm)
      go_roundw
      case rel => exact ⟨j + 1, _, by omega, by go_num, H1.out⟩
      case measure => simp [intOf]; omega
    · obtain rfl : j = 64 := by omega
      rw [show ((64 : Nat) : Int) = 64 from rfl]
      have c3 := hM.out.cell (i := 3) rfl 3 (.slice da nd dc) rfl
      have c4 := hM.out.cell (i := 3) rfl 4 (.slice (some ⟨bg, 0, none⟩) 64 bc) rfl
      have hrow := hM.out.get (i := 4) rfl
      obtain ⟨x, hx⟩ : ∃ x, xs[c]? = some x := by have := hrow.own.1; exact ⟨_, List.getElem?_eq_getElem (by simp at this; omega)⟩
      have t1 := World.ownsRow.cellAt hrow.own c (by omega)
      rw [hx] at t1
      have tf := World.ownsRow.frozenAt hrow.own c
      clear hrow hx hlt
      go_upto_region 9 with fail
      go_cut [] (fun wy => Hid (M w0 B wy (.blk gd (DC k key v f (.slice none 0 0) (.slice ka 64 kc) false false 0 false 0 0 (.slice none 0 0) (.slice none 0 0) (.slice none 0 0)) 84 :: .row 3 1 (.slice ka 64 kc) 64 (List.replicate 64 (.int .i64 (-1))) :: .blk go #[.int .i64 k, .int .i64 key, .int .i64 v] 37 :: .blk gw (WC tv uv vv (.slice da nd dc) (.slice (some ⟨bg, 0, none⟩) 64 bc) now puts rf il wt bk kp cv ov bad) 58 :: .row 3 1 (.slice (some ⟨bg, 0, none⟩) 64 bc) 64 (xs.set c (.int .i64 nd)) :: .row 81 1 (.slice da nd dc) nd ds :: fr)))
      case first =>
        go_region
        all_goals
          go_wp2
          go_meet
          case rel => exact (hM.out.storeRow (i := 4) (j := c) rfl (.int .i64 nd)).drew
      case rest =>
        have hN := hideIt hcut
        clear hcut hM q5 f5 c3 c4 t1 tf hsz
        have c3 := hN.out.out.cell (i := 3) rfl 3 (.slice da nd dc) rfl
        have f3 := hN.out.out.free (i := 3) rfl 3
        have p0 := hN.out.out.cell (i := 2) rfl 0 (.int .i64 k) rfl
        by_cases hk2 : k = 2
        · have hsk : (k == 2) = true := by simp [hk2]
          have HK2 := hideIt hk2
          clear hk2
          go_wp2_with (at_builtin; refine wpList_append_lies _ rfl _ _ 54 rfl B 81 j0 (.pointer none) 1 8 Tryd.underlying54 hj0 hy0 hy1 hy2 rfl (by decide) _ nd ds rfl (World.ownsRow.alloc (hN.out.out.get (i := 5) rfl) _) ⟨_, 0, none⟩ 1 1 [.pointer (some ⟨gd, 0, none⟩)] rfl rfl (news_one _ _ _) (by simp [Value.oneCell']) (by omega) (by unfold maxLen; omega) (by omega) (by have := hN.out.out.sz; simp at this ⊢; omega) _ rfl ?_; intro g1 cap1 w5 hown hgrow hat hlt1; have hm := (hN.out.out.allocd _).lies (i := 5) rfl hown hgrow hat; clear c3 f3 p0 hown hgrow hat; have c3 := hm.cell (i := 3) rfl 3 (.slice da nd dc) rfl; have f3 := hm.free (i := 3) rfl 3; have p0 := hm.cell (i := 2) rfl 0 (.int .i64 k) rfl; have hneo := hm.bne (i := 2) (j := 3) rfl rfl (by omega); have H1 := hideIt (hm.store (i := 3) (j := 3) rfl (.slice (some ⟨g1, 0, none⟩) (nd + 1) cap1) rfl); have g6 := hm.cell (i := 3) rfl 6 (.int .i64 puts) rfl; have f6 := hm.free (i := 3) rfl 6; clear hm)
          have H2 := hideIt (H1.out.store (i := 3) (j := 6) rfl (.int .i64 (puts + 1)) rfl)
          refine bodyPost_end (results_none Tryd.results55 _ _ _) rfl ⟨⟨_, rfl⟩, gd, f, HF.out, .slice ka 64 kc, .slice (some ⟨g1, 0, none⟩) (nd + 1) cap1, ?_⟩
          unfold pu
          rw [if_pos HK2.out]
          exact H2.out.sub (List.Sublist.cons_cons _ (List.Sublist.cons_cons _ (List.sublist_cons_self _ _)))
        · have hsk : (k == 2) = false := by simp [hk2]
          have HK2 := hideIt hk2
          clear hk2
          go_wp2_with (at_builtin; refine wpList_append_lies _ rfl _ _ 54 rfl B 81 j0 (.pointer none) 1 8 Tryd.underlying54 hj0 hy0 hy1 hy2 rfl (by decide) _ nd ds rfl (World.ownsRow.alloc (hN.out.out.get (i := 5) rfl) _) ⟨_, 0, none⟩ 1 1 [.pointer (some ⟨gd, 0, none⟩)] rfl rfl (news_one _ _ _) (by simp [Value.oneCell']) (by omega) (by unfold maxLen; omega) (by omega) (by have := hN.out.out.sz; simp at this ⊢; omega) _ rfl ?_; intro g1 cap1 w5 hown hgrow hat hlt1; have hm := (hN.out.out.allocd _).lies (i := 5) rfl hown hgrow hat; clear c3 f3 p0 hown hgrow hat; have c3 := hm.cell (i := 3) rfl 3 (.slice da nd dc) rfl; have f3 := hm.free (i := 3) rfl 3; have p0 := hm.cell (i := 2) rfl 0 (.int .i64 k) rfl; have hneo := hm.bne (i := 2) (j := 3) rfl rfl (by omega); have H1 := hideIt (hm.store (i := 3) (j := 3) rfl (.slice (some ⟨g1, 0, none⟩) (nd + 1) cap1) rfl); have g6 := hm.cell (i := 3) rfl 6 (.int .i64 puts) rfl; have f6 := hm.free (i := 3) rfl 6; clear hm)
          refine bodyPost_end (results_none Tryd.results55 _ _ _) rfl ⟨⟨_, rfl⟩, gd, f, HF.out, .slice ka 64 kc, .slice (some ⟨g1, 0, none⟩) (nd + 1) cap1, ?_⟩
          unfold pu
          rw [if_neg HK2.out]
          exact H1.out.sub (List.Sublist.cons_cons _ (List.Sublist.cons_cons _ (List.sublist_cons_self _ _)))
def Dd.new (gd kg kc : Nat) (k key v : Int) (f : ByteArray) : Dd := ⟨gd, kg, kc, .slice none 0 0, .slice none 0 0, .slice none 0 0, .slice none 0 0, k, key, v, f, [], List.replicate 64 (-1), false, false, 0, false, 0, 0, [], [], []⟩
theorem M.nil2 {w0 w : World} {B : Nat} {l1 l2 : List As} {e : TypeId} {z : Nat} (h : M w0 B w (l1 ++ l2)) : M w0 B w (l1 ++ .row e z (.slice none 0 0) 0 [] :: l2) := by
  have h1 := h.snocNil (e := e) (z := z)
  refine h1.perm ?_
  rw [List.append_assoc]
  exact List.Perm.append_left _ (List.perm_append_comm (l₁ := [_]))
set_option maxRecDepth 100000 in
set_option maxHeartbeats 1600000 in
theorem sys_begin (x : Wd) (c : Nat) (k key v : Int) (P : ByteArray → Prop) (fr : List As) (w0 w : World) (B : Nat) (htab : Tab w0) (hB : B = w0.heap.size) (hc : c < 64) (hnd : x.ds.length ≤ 100000000) (hp0 : 0 ≤ x.puts) (hp1 : x.puts ≤ 100000000)
    (hBegin : ∀ W, Tab W → Calls Tryd.prog 21 #[.agg #[.int .i64 k, .int .i64 key, .int .i64 v]] W fun e w' => (∃ f : ByteArray, e = .returned (.tuple #[.string f, .int .i64 0]) ∧ P f) ∧ Below W.heap.size W w')
    (h : M w0 B w (x.as ++ fr)) :
    Calls Tryd.prog 55 #[.pointer (some ⟨x.gw, 0, none⟩), .int .i64 c, .agg #[.int .i64 k, .int .i64 key, .int .i64 v]] w fun e w' => (∃ u, e = .returned u) ∧ ∃ (gd kg kc : Nat) (f : ByteArray) (dv' : Value), P f ∧ M w0 B w' (({ x with dv := dv', bs := x.bs.set c x.ds.length, puts := pu k x.puts, ds := x.ds ++ [Dd.new gd kg kc k key v f] } : Wd).as ++ fr) := by
  have h1 : M w0 B w (.blk x.gw (WC (.slice (some ⟨x.tg, 0, none⟩) 64 x.tc) (.slice (some ⟨x.ug, 0, none⟩) 64 x.uc) (.slice (some ⟨x.vg, 0, none⟩) 64 x.vc) x.dv (.slice (some ⟨x.bg, 0, none⟩) 64 x.bc) x.now x.puts x.rf false x.wt false x.kp x.cv x.ov false) 58 :: .row 3 1 (.slice (some ⟨x.bg, 0, none⟩) 64 x.bc) 64 (ints x.bs) :: .row 81 1 x.dv x.ds.length (x.ds.map Dd.ptr) :: (.row 9 1 (.slice (some ⟨x.tg, 0, none⟩) 64 x.tc) 64 (strs x.T) :: .row 4 1 (.slice (some ⟨x.ug, 0, none⟩) 64 x.uc) 64 (bools x.U) :: .row 3 1 (.slice (some ⟨x.vg, 0, none⟩) 64 x.vc) 64 (ints x.V) :: (x.ds.flatMap Dd.as ++ fr))) := h
  refine (begin_gen x.gw x.bg x.bc x.ds.length c _ _ _ x.dv x.cv x.ov x.now x.puts x.rf false x.wt false x.kp false (ints x.bs) (x.ds.map Dd.ptr) k key v _ w0 w B P htab hB hc hp0 hp1 hBegin hnd h1).mono ?_
  rintro e w' ⟨he, gd, f, hP, kv, dv', hM⟩
  obtain ⟨kg, kc, rfl⟩ := As.form (hM.get (i := 1) rfl) (by omega)
  refine ⟨he, gd, kg, kc, f, dv', hP, ?_⟩
  have h2 := M.nil2 (e := 3) (z := 1) (l1 := [_, _]) hM
  have h3 := M.nil2 (e := 3) (z := 1) (l1 := [_, _, _]) h2
  have h4 := M.nil2 (e := 3) (z := 1) (l1 := [_, _, _, _]) h3
  have h5 := M.nil2 (e := 142) (z := 2) (l1 := [_, _, _, _, _]) h4
  obtain ⟨x', hx'⟩ : ∃ y : Wd, y = { x with dv := dv', bs := x.bs.set c x.ds.length, puts := pu k x.puts, ds := x.ds ++ [Dd.new gd kg kc k key v f] } := ⟨_, rfl⟩
  rw [← hx']
  have e1 : x'.as ++ fr = x'.hd ++ (x.ds.flatMap Dd.as ++ ((Dd.new gd kg kc k key v f).as ++ fr)) := by
    unfold Wd.as
    rw [show x'.ds = x.ds ++ [Dd.new gd kg kc k key v f] by rw [hx'], List.flatMap_append, List.flatMap_cons, List.flatMap_nil, List.append_nil]
    simp only [List.append_assoc]
  rw [e1]
  have e2 : (Dd.new gd kg kc k key v f).as ++ (x'.hd ++ (x.ds.flatMap Dd.as ++ fr)) = .blk gd (DC k key v f (.slice none 0 0) (.slice (some ⟨kg, 0, none⟩) 64 kc) false false 0 false 0 0 (.slice none 0 0) (.slice none 0 0) (.slice none 0 0)) 84 :: .row 3 1 (.slice (some ⟨kg, 0, none⟩) 64 kc) 64 (List.replicate 64 (.int .i64 (-1))) :: .row 3 1 (.slice none 0 0) 0 [] :: .row 3 1 (.slice none 0 0) 0 [] :: .row 3 1 (.slice none 0 0) 0 [] :: .row 142 2 (.slice none 0 0) 0 [] :: .blk x.gw (WC (.slice (some ⟨x.tg, 0, none⟩) 64 x.tc) (.slice (some ⟨x.ug, 0, none⟩) 64 x.uc) (.slice (some ⟨x.vg, 0, none⟩) 64 x.vc) dv' (.slice (some ⟨x.bg, 0, none⟩) 64 x.bc) x.now (pu k x.puts) x.rf false x.wt false x.kp x.cv x.ov false) 58 :: .row 3 1 (.slice (some ⟨x.bg, 0, none⟩) 64 x.bc) 64 ((ints x.bs).set c (.int .i64 x.ds.length)) :: .row 81 1 dv' (x.ds.length + 1) (x.ds.map Dd.ptr ++ [.pointer (some ⟨gd, 0, none⟩)]) :: (.row 9 1 (.slice (some ⟨x.tg, 0, none⟩) 64 x.tc) 64 (strs x.T) :: .row 4 1 (.slice (some ⟨x.ug, 0, none⟩) 64 x.uc) 64 (bools x.U) :: .row 3 1 (.slice (some ⟨x.vg, 0, none⟩) 64 x.vc) 64 (ints x.V) :: (x.ds.flatMap Dd.as ++ fr)) := by
    have e3 : x'.ds.map Dd.ptr = x.ds.map Dd.ptr ++ [.pointer (some ⟨gd, 0, none⟩)] := by rw [hx']; simp [Dd.ptr, Dd.new]
    have e4 : x'.ds.length = x.ds.length + 1 := by rw [hx']; simp
    have e5 : ints (List.replicate 64 (-1)) = List.replicate 64 (.int .i64 (-1)) := by simp [ints]
    obtain ⟨z, hz⟩ : ∃ z, x.ds.flatMap Dd.as ++ fr = z := ⟨_, rfl⟩
    rw [hz, ints_setx]
    unfold Wd.hd
    rw [e3, e4, ← e5]
    subst hx'
    rfl
  have h6 : M w0 B w' ((Dd.new gd kg kc k key v f).as ++ (x'.hd ++ (x.ds.flatMap Dd.as ++ fr))) := by rw [e2]; exact h5
  refine h6.perm ?_
  exact (List.Perm.append_left _ (List.perm_append_comm_assoc _ _ _)).trans (List.perm_append_comm_assoc _ _ _)
end Go.Proofs.YtajobgmnmbnhiaaDoor.Sap
