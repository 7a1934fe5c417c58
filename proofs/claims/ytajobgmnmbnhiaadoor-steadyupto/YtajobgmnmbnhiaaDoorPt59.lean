/- WHAT IS PROVED HERE: one access of any client's operation as a step of saplingkeep's world, where each call is kept (keeps): the call lies behind the others. Conditions: what Next and Tell answer at the operation's frame is given; the access is one that the document lets. -/
import Derived.Test.YtajobgmnmbnhiaaDoorPt49
import Derived.Test.YtajobgmnmbnhiaaDoorPt58
namespace Go.Proofs.YtajobgmnmbnhiaaDoor.Sap
open Go.RowKit
theorem perm_row (W A D N C fr R : List As) : (D ++ (W ++ (R ++ (N ++ (A ++ (C ++ fr)))))).Perm ((W ++ (A ++ ((D ++ N) ++ C))) ++ (R ++ fr)) := by
  refine List.Perm.trans ?_ (perm_deed W A D N C (R ++ fr))
  refine List.Perm.append_left _ (List.Perm.append_left _ ?_)
  refine (List.perm_append_comm_assoc R N _).trans (List.Perm.append_left _ ?_)
  refine (List.perm_append_comm_assoc R A _).trans (List.Perm.append_left _ ?_)
  exact List.perm_append_comm_assoc R C _
theorem perm_swap (N H W R T X : List As) : (N ++ (H ++ (W ++ (R ++ (T ++ X))))).Perm (T ++ (H ++ (W ++ (R ++ (N ++ X))))) := by
  have mv : ∀ a Z : List As, (a ++ (H ++ (W ++ (R ++ Z)))).Perm (H ++ (W ++ (R ++ (a ++ Z)))) := fun a Z => by
    refine (List.perm_append_comm_assoc a H _).trans (List.Perm.append_left _ ?_)
    refine (List.perm_append_comm_assoc a W _).trans (List.Perm.append_left _ ?_)
    exact List.perm_append_comm_assoc a R _
  refine (mv N (T ++ X)).trans (List.Perm.trans ?_ (mv T (N ++ X)).symm)
  exact List.Perm.append_left _ (List.Perm.append_left _ (List.Perm.append_left _ (List.perm_append_comm_assoc N T X)))
set_option maxRecDepth 100000 in
set_option maxHeartbeats 1600000 in
theorem sys_go_k (nc : Nat) (CL : List Value) (hnc : nc ≤ 100000000000) (x : Wd) (d : Dd) (c i : Nat) (ak ap av rv rp : Int) (at' rt : ByteArray) (rd drf' : Bool) (kns' V' : List Int) (T' : List ByteArray) (U' : List Bool) (P : ByteArray → Prop) (fr : List As) (w0 w : World) (B : Nat) (htab : Tab w0) (hB : B = w0.heap.size) (hc : c < 64) (hb : x.bs[c]? = some (i : Int)) (hd : x.ds[i]? = some d) (hlive : d.live) (hkp : x.kp = true)
    (hStands : x.wt = true → ak ≠ 1 → ∀ W, PgR x.gw x.tg x.tc x.ug x.uc T' U' W → Calls Tryd.prog 84 #[.pointer (some ⟨x.gw, 0, none⟩)] W fun e w' => e = .returned (.bool true) ∧ Below W.heap.size W w')
    (hnd : x.ds.length ≤ 100000000) (hnt : d.ts.length ≤ 100000000) (hnw : 0 ≤ x.now ∧ x.now ≤ 100000000000)
    (hNext : ∀ W, Tab W → Calls Tryd.prog 26 #[.string d.f] W fun e w' => e = .returned (.tuple #[.agg #[.int .i64 ak, .int .i64 ap, .int .i64 av, .string at'], .int .i64 0]) ∧ Below W.heap.size W w')
    (hA : AccR d.k ak ap av at' x.T x.U x.V d.kns d.rf rv rp rt rd T' U' V' kns' drf')
    (hTell : ∀ W, Tab W → Calls Tryd.prog 61 #[.string d.f, .agg #[.int .i64 rv, .int .i64 rp, .string rt, .bool rd]] W fun e w' => GoR P W w' e)
    (h : M w0 B w (x.as ++ ([.row 78 18 x.cv nc CL] ++ fr))) :
    Calls Tryd.prog 56 #[.pointer (some ⟨x.gw, 0, none⟩), .int .i64 c] w fun e w' => (∃ u, e = .returned u) ∧ ∃ tm' f' cv2 k2 v2 c2, P f' ∧ M w0 B w' (({ x with cv := cv2, T := T', U := U', V := V', now := x.now + 1, rf := x.rf || drf', ds := x.ds.set i { d with tm := tm', f := f', ts := d.ts ++ [x.now], kns := kns', rf := drf' } } : Wd).as ++ ([.row 78 18 cv2 (nc + 1) (CL ++ [.string d.f, .int .i64 ak, .int .i64 ap, .int .i64 av, .string at', .int .i64 rv, .int .i64 rp, .string rt, .bool rd, .string f', .bool false, .int .i64 0, .bool false, .int .i64 0, .int .i64 0, k2, v2, c2]), .row 142 2 c2 0 (cutc []), .row 3 1 v2 0 (ints []), .row 3 1 k2 0 (ints [])] ++ fr)) := by
  have hil := (List.getElem?_eq_some_iff.1 hd).1
  have e1 := x.split i d hd
  have hx : x.as = x.hd ++ ((x.ds.take i).flatMap Dd.as ++ ((d.hd ++ d.tl) ++ (x.ds.drop (i + 1)).flatMap Dd.as)) := by unfold Wd.as; rw [e1]
  rw [hx] at h
  have h1 := h.perm (perm_row x.hd ((x.ds.take i).flatMap Dd.as) d.hd d.tl ((x.ds.drop (i + 1)).flatMap Dd.as) fr [.row 78 18 x.cv nc CL])
  obtain ⟨dg, dc, hdv⟩ := As.form (h1.get (i := 5) rfl) (show 0 < x.ds.length by omega)
  obtain ⟨en, er, fd, va, pt, hkv, hvv, hcv, hks, hvs, hcs⟩ := hlive
  have hdp : (x.ds.map Dd.ptr)[i]? = some (.pointer (some ⟨d.gd, 0, none⟩)) := by rw [List.getElem?_map, hd]; rfl
  have hLM : d.hd ++ (x.hd ++ ([.row 78 18 x.cv nc CL] ++ (d.tl ++ ((x.ds.take i).flatMap Dd.as ++ ((x.ds.drop (i + 1)).flatMap Dd.as ++ fr))))) = LM d.gd d.kg d.kc x.gw x.tg x.tc x.ug x.uc x.vg x.vc dg dc x.bg x.bc x.ds.length d.k d.key d.v d.f d.tm d.ts.length d.rf d.kns d.ts x.now x.puts x.rf x.wt true x.cv x.ov x.bs (x.ds.map Dd.ptr) x.T x.U x.V (.row 78 18 x.cv nc CL :: (d.tl ++ ((x.ds.take i).flatMap Dd.as ++ ((x.ds.drop (i + 1)).flatMap Dd.as ++ fr)))) := by
    unfold Dd.hd Wd.hd LM
    rw [hdv, en, er, fd, va, pt, hkv, hvv, hcv, hkp]
    rfl
  rw [hLM] at h1
  refine (move_go_k nc CL hnc d.gd d.kg d.kc d.ts.length x.gw x.tg x.tc x.ug x.uc x.vg x.vc dg dc x.bg x.bc x.ds.length i c x.cv x.ov x.now x.puts d.k d.key d.v ak ap av rv rp d.f at' rt rd d.rf drf' x.rf x.wt d.kns kns' x.bs x.V V' (x.ds.map Dd.ptr) d.ts x.T T' x.U U' d.tm P _ w0 w B htab hB hc hb hdp hnd (by simp) hnt hnw hNext
    (fun W ga hW => acc_legal hA hW)
    (fun W ga hW => acc_act hA hW)
    (fun W ga gr hW => acc_learns hA hW)
    (fun hw hk W ga gr hW => hStands hw hk W (LM.pg hW))
    hTell h1).mono ?_
  rintro e w' ⟨he, tm', f', cv2, k2, v2, c2, hP, hM⟩
  refine ⟨he, tm', f', cv2, k2, v2, c2, hP, ?_⟩
  obtain ⟨d', hd'⟩ : ∃ y : Dd, y = { d with tm := tm', f := f', ts := d.ts ++ [x.now], kns := kns', rf := drf' } := ⟨_, rfl⟩
  rw [← hd']
  obtain ⟨x', hx'⟩ : ∃ y : Wd, y = { x with cv := cv2, T := T', U := U', V := V', now := x.now + 1, rf := x.rf || drf', ds := x.ds.set i d' } := ⟨_, rfl⟩
  rw [← hx']
  have hg : d'.gd = d.gd := by rw [hd']
  have e2 : x'.as = x'.hd ++ ((x.ds.take i).flatMap Dd.as ++ ((d'.hd ++ d'.tl) ++ (x.ds.drop (i + 1)).flatMap Dd.as)) := by
    unfold Wd.as
    rw [show x'.ds = x.ds.set i d' by rw [hx'], set_split _ _ _ hil, List.flatMap_append, List.flatMap_cons]
    rfl
  rw [e2]
  refine M.perm ?_ (perm_row x'.hd ((x.ds.take i).flatMap Dd.as) d'.hd d'.tl ((x.ds.drop (i + 1)).flatMap Dd.as) fr [.row 78 18 cv2 (nc + 1) (CL ++ [.string d.f, .int .i64 ak, .int .i64 ap, .int .i64 av, .string at', .int .i64 rv, .int .i64 rp, .string rt, .bool rd, .string f', .bool false, .int .i64 0, .bool false, .int .i64 0, .int .i64 0, k2, v2, c2]), .row 142 2 c2 0 (cutc []), .row 3 1 v2 0 (ints []), .row 3 1 k2 0 (ints [])]).symm
  have e3 : d'.hd ++ (x'.hd ++ ([.row 78 18 cv2 (nc + 1) (CL ++ [.string d.f, .int .i64 ak, .int .i64 ap, .int .i64 av, .string at', .int .i64 rv, .int .i64 rp, .string rt, .bool rd, .string f', .bool false, .int .i64 0, .bool false, .int .i64 0, .int .i64 0, k2, v2, c2]), .row 142 2 c2 0 (cutc []), .row 3 1 v2 0 (ints []), .row 3 1 k2 0 (ints [])] ++ (d'.tl ++ ((x.ds.take i).flatMap Dd.as ++ ((x.ds.drop (i + 1)).flatMap Dd.as ++ fr))))) = LM d.gd d.kg d.kc x.gw x.tg x.tc x.ug x.uc x.vg x.vc dg dc x.bg x.bc x.ds.length d.k d.key d.v f' tm' (d.ts.length + 1) drf' kns' (d.ts ++ [x.now]) (x.now + 1) x.puts (x.rf || drf') x.wt true cv2 x.ov x.bs (x.ds.map Dd.ptr) T' U' V' (.row 78 18 cv2 (nc + 1) (CL ++ [.string d.f, .int .i64 ak, .int .i64 ap, .int .i64 av, .string at', .int .i64 rv, .int .i64 rp, .string rt, .bool rd, .string f', .bool false, .int .i64 0, .bool false, .int .i64 0, .int .i64 0, k2, v2, c2]) :: .row 142 2 c2 0 (cutc []) :: .row 3 1 v2 0 (ints []) :: .row 3 1 k2 0 (ints []) :: (d.tl ++ ((x.ds.take i).flatMap Dd.as ++ ((x.ds.drop (i + 1)).flatMap Dd.as ++ fr)))) := by
    have e4 : x'.ds.map Dd.ptr = x.ds.map Dd.ptr := by rw [hx']; exact map_set_ptr x.ds i d d' hd hg
    have e5 : x'.ds.length = x.ds.length := by rw [hx']; simp
    have e6 : d'.tl = d.tl := by rw [hd']; rfl
    rw [e6]
    unfold Dd.hd Wd.hd LM
    rw [e4, e5]
    subst hx' hd'
    simp only [List.length_append, List.length_singleton, hdv, en, er, fd, va, pt, hkv, hvv, hcv, hkp]
    rfl
  rw [e3]
  exact hM
set_option maxRecDepth 100000 in
set_option maxHeartbeats 1600000 in
theorem sys_end_k (nc : Nat) (CL : List Value) (hnc : nc ≤ 100000000000) (x : Wd) (d : Dd) (c i : Nat) (ak ap av rv rp : Int) (at' rt : ByteArray) (rd drf' : Bool) (kns' V' : List Int) (T' : List ByteArray) (U' : List Bool) (er : Int) (fd : Bool) (va pt : Int) (ks vs : List Int) (cs : List (Int × Int)) (fr : List As) (w0 w : World) (B : Nat) (htab : Tab w0) (hB : B = w0.heap.size) (hc : c < 64) (hb : x.bs[c]? = some (i : Int)) (hd : x.ds[i]? = some d) (hlive : d.live) (hkp : x.kp = true) (hkl : ks.length ≤ 1000000) (hvl : vs.length ≤ 1000000) (hcl : cs.length ≤ 1000000)
    (hStands : x.wt = true → ak ≠ 1 → ∀ W, PgR x.gw x.tg x.tc x.ug x.uc T' U' W → Calls Tryd.prog 84 #[.pointer (some ⟨x.gw, 0, none⟩)] W fun e w' => e = .returned (.bool true) ∧ Below W.heap.size W w')
    (hnd : x.ds.length ≤ 100000000) (hnt : d.ts.length ≤ 100000000) (hnw : 0 ≤ x.now ∧ x.now ≤ 100000000000)
    (hNext : ∀ W, Tab W → Calls Tryd.prog 26 #[.string d.f] W fun e w' => e = .returned (.tuple #[.agg #[.int .i64 ak, .int .i64 ap, .int .i64 av, .string at'], .int .i64 0]) ∧ Below W.heap.size W w')
    (hA : AccR d.k ak ap av at' x.T x.U x.V d.kns d.rf rv rp rt rd T' U' V' kns' drf')
    (hTell : ∀ W, Tab W → Calls Tryd.prog 61 #[.string d.f, .agg #[.int .i64 rv, .int .i64 rp, .string rt, .bool rd]] W fun e w' => FinR er fd va pt ks vs cs W w' e)
    (h : M w0 B w (x.as ++ ([.row 78 18 x.cv nc CL] ++ fr))) :
    Calls Tryd.prog 56 #[.pointer (some ⟨x.gw, 0, none⟩), .int .i64 c] w fun e w' => (∃ u, e = .returned u) ∧ ∃ tm' kv vv cv cv2 k2 v2 c2, M w0 B w' (({ x with cv := cv2, T := T', U := U', V := V', bs := x.bs.set c (-1), now := x.now + 1, rf := x.rf || drf', ds := x.ds.set i { d with tm := tm', f := ⟨#[]⟩, ts := d.ts ++ [x.now], kns := kns', rf := drf', en := true, er := er, fd := fd, va := va, pt := pt, kv := kv, vv := vv, cv := cv, ks := ks, vs := vs, cs := cs } } : Wd).as ++ ([.row 78 18 cv2 (nc + 1) (CL ++ [.string d.f, .int .i64 ak, .int .i64 ap, .int .i64 av, .string at', .int .i64 rv, .int .i64 rp, .string rt, .bool rd, .string ⟨#[]⟩, .bool true, .int .i64 er, .bool fd, .int .i64 va, .int .i64 pt, k2, v2, c2]), .row 142 2 c2 cs.length (cutc cs), .row 3 1 v2 vs.length (ints vs), .row 3 1 k2 ks.length (ints ks)] ++ fr)) := by
  have hil := (List.getElem?_eq_some_iff.1 hd).1
  have e1 := x.split i d hd
  have hx : x.as = x.hd ++ ((x.ds.take i).flatMap Dd.as ++ ((d.hd ++ d.tl) ++ (x.ds.drop (i + 1)).flatMap Dd.as)) := by unfold Wd.as; rw [e1]
  rw [hx] at h
  have h1 := h.perm (perm_row x.hd ((x.ds.take i).flatMap Dd.as) d.hd d.tl ((x.ds.drop (i + 1)).flatMap Dd.as) fr [.row 78 18 x.cv nc CL])
  obtain ⟨dg, dc, hdv⟩ := As.form (h1.get (i := 5) rfl) (show 0 < x.ds.length by omega)
  obtain ⟨en, her, hfd, hva, hpt, hkv, hvv, hcv, hks, hvs, hcs⟩ := hlive
  have hdp : (x.ds.map Dd.ptr)[i]? = some (.pointer (some ⟨d.gd, 0, none⟩)) := by rw [List.getElem?_map, hd]; rfl
  have hLM : d.hd ++ (x.hd ++ ([.row 78 18 x.cv nc CL] ++ (d.tl ++ ((x.ds.take i).flatMap Dd.as ++ ((x.ds.drop (i + 1)).flatMap Dd.as ++ fr))))) = LM d.gd d.kg d.kc x.gw x.tg x.tc x.ug x.uc x.vg x.vc dg dc x.bg x.bc x.ds.length d.k d.key d.v d.f d.tm d.ts.length d.rf d.kns d.ts x.now x.puts x.rf x.wt true x.cv x.ov x.bs (x.ds.map Dd.ptr) x.T x.U x.V (.row 78 18 x.cv nc CL :: (d.tl ++ ((x.ds.take i).flatMap Dd.as ++ ((x.ds.drop (i + 1)).flatMap Dd.as ++ fr)))) := by
    unfold Dd.hd Wd.hd LM
    rw [hdv, en, her, hfd, hva, hpt, hkv, hvv, hcv, hkp]
    rfl
  rw [hLM] at h1
  refine (move_end_k nc CL hnc d.gd d.kg d.kc d.ts.length x.gw x.tg x.tc x.ug x.uc x.vg x.vc dg dc x.bg x.bc x.ds.length i c x.cv x.ov x.now x.puts d.k d.key d.v ak ap av rv rp d.f at' rt rd d.rf drf' x.rf x.wt d.kns kns' x.bs x.V V' (x.ds.map Dd.ptr) d.ts x.T T' x.U U' d.tm er fd va pt ks vs cs hkl hvl hcl _ w0 w B htab hB hc hb hdp hnd (by simp) hnt hnw hNext
    (fun W ga hW => acc_legal hA hW)
    (fun W ga hW => acc_act hA hW)
    (fun W ga gr hW => acc_learns hA hW)
    (fun hw hk W ga gr hW => hStands hw hk W (LM.pg hW))
    hTell h1).mono ?_
  rintro e w' ⟨he, tm', kv, vv, cv, cv2, k2, v2, c2, hM⟩
  refine ⟨he, tm', kv, vv, cv, cv2, k2, v2, c2, ?_⟩
  obtain ⟨d', hd'⟩ : ∃ y : Dd, y = { d with tm := tm', f := ⟨#[]⟩, ts := d.ts ++ [x.now], kns := kns', rf := drf', en := true, er := er, fd := fd, va := va, pt := pt, kv := kv, vv := vv, cv := cv, ks := ks, vs := vs, cs := cs } := ⟨_, rfl⟩
  rw [← hd']
  obtain ⟨x', hx'⟩ : ∃ y : Wd, y = { x with cv := cv2, T := T', U := U', V := V', bs := x.bs.set c (-1), now := x.now + 1, rf := x.rf || drf', ds := x.ds.set i d' } := ⟨_, rfl⟩
  rw [← hx']
  have hg : d'.gd = d.gd := by rw [hd']
  have e2 : x'.as = x'.hd ++ ((x.ds.take i).flatMap Dd.as ++ ((d'.hd ++ d'.tl) ++ (x.ds.drop (i + 1)).flatMap Dd.as)) := by
    unfold Wd.as
    rw [show x'.ds = x.ds.set i d' by rw [hx'], set_split _ _ _ hil, List.flatMap_append, List.flatMap_cons]
    rfl
  rw [e2]
  have e4 : x'.ds.map Dd.ptr = x.ds.map Dd.ptr := by rw [hx']; exact map_set_ptr x.ds i d d' hd hg
  have e5 : x'.ds.length = x.ds.length := by rw [hx']; simp
  have e3 : d'.tl ++ (d'.hd ++ (x'.hd ++ ([.row 78 18 cv2 (nc + 1) (CL ++ [.string d.f, .int .i64 ak, .int .i64 ap, .int .i64 av, .string at', .int .i64 rv, .int .i64 rp, .string rt, .bool rd, .string ⟨#[]⟩, .bool true, .int .i64 er, .bool fd, .int .i64 va, .int .i64 pt, k2, v2, c2]), .row 142 2 c2 cs.length (cutc cs), .row 3 1 v2 vs.length (ints vs), .row 3 1 k2 ks.length (ints ks)] ++ (d.tl ++ ((x.ds.take i).flatMap Dd.as ++ ((x.ds.drop (i + 1)).flatMap Dd.as ++ fr)))))) = LE d.gd d.kg d.kc x.gw x.tg x.tc x.ug x.uc x.vg x.vc dg dc x.bg x.bc x.ds.length d.k d.key d.v tm' (d.ts.length + 1) drf' er fd va pt kv vv cv ks vs cs kns' (d.ts ++ [x.now]) (x.now + 1) x.puts (x.rf || drf') x.wt true cv2 x.ov (x.bs.set c (-1)) (x.ds.map Dd.ptr) T' U' V' (.row 78 18 cv2 (nc + 1) (CL ++ [.string d.f, .int .i64 ak, .int .i64 ap, .int .i64 av, .string at', .int .i64 rv, .int .i64 rp, .string rt, .bool rd, .string ⟨#[]⟩, .bool true, .int .i64 er, .bool fd, .int .i64 va, .int .i64 pt, k2, v2, c2]) :: .row 142 2 c2 cs.length (cutc cs) :: .row 3 1 v2 vs.length (ints vs) :: .row 3 1 k2 ks.length (ints ks) :: (d.tl ++ ((x.ds.take i).flatMap Dd.as ++ ((x.ds.drop (i + 1)).flatMap Dd.as ++ fr)))) := by
    obtain ⟨z, hz⟩ : ∃ z, d.tl ++ ((x.ds.take i).flatMap Dd.as ++ ((x.ds.drop (i + 1)).flatMap Dd.as ++ fr)) = z := ⟨_, rfl⟩
    rw [hz]
    unfold Dd.hd Dd.tl Wd.hd LE
    rw [e4, e5]
    subst hx' hd'
    simp only [List.length_append, List.length_singleton, hdv, hkp]
    rfl
  rw [← e3] at hM
  have h5 := (hM.perm (perm_swap d.tl d'.hd x'.hd [.row 78 18 cv2 (nc + 1) (CL ++ [.string d.f, .int .i64 ak, .int .i64 ap, .int .i64 av, .string at', .int .i64 rv, .int .i64 rp, .string rt, .bool rd, .string ⟨#[]⟩, .bool true, .int .i64 er, .bool fd, .int .i64 va, .int .i64 pt, k2, v2, c2]), .row 142 2 c2 cs.length (cutc cs), .row 3 1 v2 vs.length (ints vs), .row 3 1 k2 ks.length (ints ks)] d'.tl _)).sub (List.sublist_append_right _ _)
  exact h5.perm (perm_row x'.hd ((x.ds.take i).flatMap Dd.as) d'.hd d'.tl ((x.ds.drop (i + 1)).flatMap Dd.as) fr [.row 78 18 cv2 (nc + 1) (CL ++ [.string d.f, .int .i64 ak, .int .i64 ap, .int .i64 av, .string at', .int .i64 rv, .int .i64 rp, .string rt, .bool rd, .string ⟨#[]⟩, .bool true, .int .i64 er, .bool fd, .int .i64 va, .int .i64 pt, k2, v2, c2]), .row 142 2 c2 cs.length (cutc cs), .row 3 1 v2 vs.length (ints vs), .row 3 1 k2 ks.length (ints ks)]).symm
theorem Wk.ex_snoc (x : Wd) (cv : Value) (C : List Rc) (r : Rc) : (⟨x, cv, C ++ [r]⟩ : Wk).ex = .row 78 18 cv (C.length + 1) (C.flatMap Rc.cells ++ r.cells) :: (r.as ++ C.reverse.flatMap Rc.as) := by
  unfold Wk.ex
  simp only [List.length_append, List.length_singleton, List.flatMap_append, List.flatMap_cons, List.flatMap_nil, List.append_nil, List.reverse_append, List.reverse_singleton, List.singleton_append]
theorem bytes_eq {a b : ByteArray} (h : a.data.toList = b.data.toList) : a = b := by
  have h1 : a.data = b.data := Array.ext' h
  cases a; cases b; cases h1; rfl
theorem move_on_k (x : Wk) (d : Dd) (c i : Nat) (rf' : Bool) (kns' V' : List Int) (T' : List ByteArray) (U' : List Bool) (s' : St) (fr : List As) (w0 w : World) (B : Nat) (htab : Tab w0) (hB : B = w0.heap.size) (hc : c < 64) (hb : x.wd.bs[c]? = some (i : Int)) (hd : x.wd.ds[i]? = some d) (hlive : d.live) (hwt : x.wd.wt = false) (hcl : x.C.length ≤ 100000000000)
    (hnd : x.wd.ds.length ≤ 100000000) (hnt : d.ts.length ≤ 100000000) (hnw : 0 ≤ x.wd.now ∧ x.wd.now ≤ 100000000000) (hA : Moves d.k d.f x.wd.T x.wd.U x.wd.V d.kns d.rf T' U' V' kns' rf' (.on s')) (h : M w0 B w (x.as ++ fr)) :
    Calls Tryd.prog 56 #[.pointer (some ⟨x.wd.gw, 0, none⟩), .int .i64 c] w fun e w' => (∃ u, e = .returned u) ∧ ∃ tm' f' cv2 r, f'.data.toList = frT s' ∧ Rc.ok r ∧ M w0 B w' ((⟨{ x.wd with T := T', U := U', V := V', now := x.wd.now + 1, rf := x.wd.rf || rf', ds := x.wd.ds.set i { d with tm := tm', f := f', ts := d.ts ++ [x.wd.now], kns := kns', rf := rf' } }, cv2, x.C ++ [r]⟩ : Wk).as ++ fr) := by
  obtain ⟨ak, ap, av, rv, rp, at', rt, rd, hN, hR, hT⟩ := hA
  have h2 : M w0 B w (x.wk.as ++ ([.row 78 18 x.wk.cv x.C.length (x.C.flatMap Rc.cells)] ++ (x.C.reverse.flatMap Rc.as ++ fr))) := by
    have e : x.as ++ fr = x.wk.as ++ ([.row 78 18 x.wk.cv x.C.length (x.C.flatMap Rc.cells)] ++ (x.C.reverse.flatMap Rc.as ++ fr)) := by
      unfold Wk.as; rw [List.append_assoc]; rfl
    rw [← e]; exact h
  refine (sys_go_k x.C.length (x.C.flatMap Rc.cells) hcl x.wk d c i ak ap av rv rp at' rt rd rf' kns' V' T' U' (fun f => f.data.toList = frT s') (x.C.reverse.flatMap Rc.as ++ fr) w0 w B htab hB hc hb hd hlive rfl (fun e _ => absurd (show x.wd.wt = true from e) (by rw [hwt]; decide)) hnd hnt hnw hN hR (fun W ht => (hT W ht).mono fun _ _ ⟨⟨c5, he, hc5⟩, hm⟩ => ⟨c5, he, hc5, hm.bl⟩) h2).mono ?_
  rintro e w' ⟨hu, tm', f', cv2, k2, v2, c2, hf, hM⟩
  refine ⟨hu, tm', f', cv2, ⟨d.f, ak, ap, av, at', rv, rp, rt, rd, f', false, 0, false, 0, 0, k2, v2, c2, [], [], []⟩, hf, ⟨⟨hN, fun W ht => (hT W ht).mono fun e2 w2 ⟨⟨c5, he, hc5⟩, hm⟩ => ?_⟩, by show 0 ≤ _; omega, by show 0 ≤ _; omega, by show 0 ≤ _; omega⟩, ?_⟩
  · have e5 : c5 = f' := bytes_eq (hc5.trans hf.symm)
    subst e5
    refine ⟨.slice none 0 0, .slice none 0 0, .slice none 0 0, he, ?_⟩
    exact M.nil2 (l1 := []) (M.nil2 (l1 := []) (M.nil2 (l1 := []) hm))
  · unfold Wk.as
    rw [Wk.ex_snoc, List.append_assoc]
    exact hM
theorem move_fin_k (x : Wk) (d : Dd) (c i : Nat) (rf' : Bool) (kns' V' : List Int) (T' : List ByteArray) (U' : List Bool) (er : Int) (fd : Bool) (va pt : Int) (ks vs : List Int) (cs : List (Int × Int)) (fr : List As) (w0 w : World) (B : Nat) (htab : Tab w0) (hB : B = w0.heap.size) (hc : c < 64) (hb : x.wd.bs[c]? = some (i : Int)) (hd : x.wd.ds[i]? = some d) (hlive : d.live) (hwt : x.wd.wt = false) (hcl : x.C.length ≤ 100000000000) (hkl : ks.length ≤ 1000000) (hvl : vs.length ≤ 1000000) (hsl : cs.length ≤ 1000000)
    (hnd : x.wd.ds.length ≤ 100000000) (hnt : d.ts.length ≤ 100000000) (hnw : 0 ≤ x.wd.now ∧ x.wd.now ≤ 100000000000) (hA : Moves d.k d.f x.wd.T x.wd.U x.wd.V d.kns d.rf T' U' V' kns' rf' (.fin er fd va pt ks vs cs)) (h : M w0 B w (x.as ++ fr)) :
    Calls Tryd.prog 56 #[.pointer (some ⟨x.wd.gw, 0, none⟩), .int .i64 c] w fun e w' => (∃ u, e = .returned u) ∧ ∃ tm' kv vv cv cv2 r, Rc.ok r ∧ M w0 B w' ((⟨{ x.wd with T := T', U := U', V := V', bs := x.wd.bs.set c (-1), now := x.wd.now + 1, rf := x.wd.rf || rf', ds := x.wd.ds.set i { d with tm := tm', f := ⟨#[]⟩, ts := d.ts ++ [x.wd.now], kns := kns', rf := rf', en := true, er := er, fd := fd, va := va, pt := pt, kv := kv, vv := vv, cv := cv, ks := ks, vs := vs, cs := cs } }, cv2, x.C ++ [r]⟩ : Wk).as ++ fr) := by
  obtain ⟨ak, ap, av, rv, rp, at', rt, rd, hN, hR, hT⟩ := hA
  have h2 : M w0 B w (x.wk.as ++ ([.row 78 18 x.wk.cv x.C.length (x.C.flatMap Rc.cells)] ++ (x.C.reverse.flatMap Rc.as ++ fr))) := by
    have e : x.as ++ fr = x.wk.as ++ ([.row 78 18 x.wk.cv x.C.length (x.C.flatMap Rc.cells)] ++ (x.C.reverse.flatMap Rc.as ++ fr)) := by
      unfold Wk.as; rw [List.append_assoc]; rfl
    rw [← e]; exact h
  refine (sys_end_k x.C.length (x.C.flatMap Rc.cells) hcl x.wk d c i ak ap av rv rp at' rt rd rf' kns' V' T' U' er fd va pt ks vs cs (x.C.reverse.flatMap Rc.as ++ fr) w0 w B htab hB hc hb hd hlive rfl hkl hvl hsl (fun e _ => absurd (show x.wd.wt = true from e) (by rw [hwt]; decide)) hnd hnt hnw hN hR hT h2).mono ?_
  rintro e w' ⟨hu, tm', kv, vv, cv, cv2, k2, v2, c2, hM⟩
  refine ⟨hu, tm', kv, vv, cv, cv2, ⟨d.f, ak, ap, av, at', rv, rp, rt, rd, ⟨#[]⟩, true, er, fd, va, pt, k2, v2, c2, ks, vs, cs⟩, ⟨⟨hN, fun W ht => hT W ht⟩, hkl, hvl, hsl⟩, ?_⟩
  unfold Wk.as
  rw [Wk.ex_snoc, List.append_assoc]
  exact hM
def CallsOk (x : Wk) : Prop := (∀ r ∈ x.C, r.ok) ∧ (x.C.length : Int) ≤ x.wd.now
theorem CallsOk.snoc {x : Wk} (h : CallsOk x) {y : Wd} (hy : y.now = x.wd.now + 1) (cv : Value) {r : Rc} (hr : r.ok) : CallsOk ⟨y, cv, x.C ++ [r]⟩ := by
  refine ⟨fun q hq => ?_, ?_⟩
  · rcases List.mem_append.1 hq with hq | hq
    · exact h.1 q hq
    · rw [List.mem_singleton] at hq; rw [hq]; exact hr
  · show ((x.C ++ [r]).length : Int) ≤ y.now
    have := h.2
    rw [hy, List.length_append, List.length_singleton]
    omega
def InvK (gw : Nat) (x : Wk) : Prop := InvG false gw x.wd ∧ CallsOk x
theorem ended_bd {o : List Dn} {now : Int} {d : Dd} (h : Ended o now d) : d.ks.length ≤ 1000000 ∧ d.vs.length ≤ 1000000 ∧ d.cs.length ≤ 1000000 := by
  rcases h.an with ⟨-, bel, pts, hs⟩ | ⟨-, h1, h2, h3, -⟩
  · have h1 := hs.k12
    have h2 := hs.sc.kl
    have h3 := hs.b64
    refine ⟨by omega, by omega, ?_⟩
    rw [hs.cs, List.length_zip]
    have := Nat.min_le_left bel.length pts.length
    omega
  · rw [h1, h2, h3]; simp
theorem Mov.movek {gw : Nat} {x : Wk} {t : Tre} {S : Nat → St} {o : List Dn} {c i : Nat} {d : Dd} (h : Mov false gw x.wd t S o c i d) (X : Ext x.wd t S o) (hC : CallsOk x) {m : Nat → Nat} (hm : RkOk t m) (hl : x.wd.ds.length ≤ 100000000) (fr : List As) (w0 w : World) (B : Nat) (htab : Tab w0) (hB : B = w0.heap.size) (hM : M w0 B w (x.as ++ fr)) :
    Calls Tryd.prog 56 #[.pointer (some ⟨x.wd.gw, 0, none⟩), .int .i64 c] w fun e w' => (∃ u, e = .returned u) ∧ ∃ x' : Wk, ((∃ t' S' o', Inv false gw x'.wd t' S' o' ∧ Ext x'.wd t' S' o' ∧ x'.wd.bs[c]? = some (-1)) ∨ (∃ t' S' o' m', Inv false gw x'.wd t' S' o' ∧ Ext x'.wd t' S' o' ∧ RkOk t' m' ∧ x'.wd.bs[c]? = some (i : Int) ∧ rnk m' x'.wd.V (S' i) < rnk m x.wd.V (S i))) ∧ Nx c x.wd x'.wd ∧ CallsOk x' ∧ M w0 B w' (x'.as ++ fr) := by
  have L := h.live
  have hD := h.inv.ds i d h.ds
  have hnow := h.now
  have hn0 := h.inv.now
  have hnt := hD.nt
  have hcl := hC.2
  obtain ⟨T', U', V', kns', rf1, r, hA, hrf, hr⟩ := h.acc hm
  have hrfx : x.wd.rf = true → (x.wd.rf || rf1) = true := fun e => by rw [e]; rfl
  have hrf1 : rf1 = true → (x.wd.rf || rf1) = true := fun e => by rw [e, Bool.or_true]
  have hcb : c < x.wd.bs.length := by rw [h.inv.bsl]; exact h.cl
  rcases hr with ⟨s', t', o', m', rfl, hE, hm', hlt, hI⟩ | ⟨t', o', er, fd, va, pt, ks, vs, cs, rfl, hE, hI⟩
  · refine (move_on_k x d c i rf1 kns' V' T' U' s' fr w0 w B htab hB h.cl h.bs h.ds L.live h.inv.wt (by omega) hl (by omega) ⟨hn0, by omega⟩ hA hM).mono ?_
    rintro e w' ⟨hu, tm, f, cv2, r, hf, hr, hM'⟩
    refine ⟨hu, ⟨{ x.wd with T := T', U := U', V := V', now := x.wd.now + 1, rf := x.wd.rf || rf1, ds := x.wd.ds.set i (d.go x.wd.now tm f kns' rf1) }, cv2, x.C ++ [r]⟩, Or.inr ⟨t', upS S i s', o', m', hI tm f (x.wd.rf || rf1) hf, ⟨xtr_on h X.1 hE rfl h.en hrfx, ful_on h X.2 hE (hI tm f (x.wd.rf || rf1) hf) hE.gr rfl rfl rfl h.en rfl rfl hrf⟩, hm', h.bs, ?_⟩, nx_go x.wd c i _ T' U' V' _, hC.snoc rfl cv2 hr, hM'⟩
    have e : upS S i s' i = s' := if_pos rfl
    rw [e]; exact hlt
  · have hil := (List.getElem?_eq_some_iff.1 h.ds).1
    have hbd : ks.length ≤ 1000000 ∧ vs.length ≤ 1000000 ∧ cs.length ≤ 1000000 := by
      have I := hI d.tm d.tm d.tm d.tm false
      have I2 := I.ds i _ (List.getElem?_set_self hil)
      exact ended_bd (I2.ed rfl)
    refine (move_fin_k x d c i rf1 kns' V' T' U' er fd va pt ks vs cs fr w0 w B htab hB h.cl h.bs h.ds L.live h.inv.wt (by omega) hbd.1 hbd.2.1 hbd.2.2 hl (by omega) ⟨hn0, by omega⟩ hA hM).mono ?_
    rintro e w' ⟨hu, tm, kv, vv, cv, cv2, r, hr, hM'⟩
    exact ⟨hu, ⟨{ x.wd with T := T', U := U', V := V', bs := x.wd.bs.set c (-1), now := x.wd.now + 1, rf := x.wd.rf || rf1, ds := x.wd.ds.set i (d.fin x.wd.now kns' rf1 er fd va pt ks vs cs tm kv vv cv) }, cv2, x.C ++ [r]⟩, Or.inl ⟨t', upS S i (S i), o', hI tm kv vv cv (x.wd.rf || rf1), ⟨xtr_fin h X.1 hE rfl hrfx hrf1, ful_fin h X.2 hE hE.gr rfl rfl rfl rfl rfl rfl rfl⟩, List.getElem?_set_self hcb⟩, nx_fin x.wd c i _ T' U' V' _, hC.snoc rfl cv2 hr, hM'⟩
theorem begin_step_k (x : Wk) (gw : Nat) (hg : x.wd.gw = gw) (c : Nat) (k key v : Int) (fr : List As) (w0 w : World) (B : Nat) (htab : Tab w0) (hB : B = w0.heap.size) (hc : c < 64) (hnd : x.wd.ds.length ≤ 100000000) (hp0 : 0 ≤ x.wd.puts) (hp1 : x.wd.puts ≤ 100000000) (ho : opR k key v = true) (hM : M w0 B w (x.as ++ fr)) :
    Calls Tryd.prog 55 #[.pointer (some ⟨gw, 0, none⟩), .int .i64 c, .agg #[.int .i64 k, .int .i64 key, .int .i64 v]] w fun e w' => (∃ u, e = .returned u) ∧ ∃ (gd kg kc : Nat) (f : ByteArray) (dv' : Value), f.data.toList = frT (bgS k key v) ∧ M w0 B w' ((⟨{ x.wd with dv := dv', bs := x.wd.bs.set c x.wd.ds.length, puts := pu k x.wd.puts, ds := x.wd.ds ++ [Dd.new gd kg kc k key v f] }, x.cv, x.C⟩ : Wk).as ++ fr) := by
  subst hg
  have h2 : M w0 B w (x.wk.as ++ (x.ex ++ fr)) := by
    have e : x.as ++ fr = x.wk.as ++ (x.ex ++ fr) := by unfold Wk.as; rw [List.append_assoc]
    rw [← e]; exact hM
  refine (begin_step x.wk c k key v (x.ex ++ fr) w0 w B htab hB hc hnd hp0 hp1 ho h2).mono ?_
  rintro e w' ⟨hu, gd, kg, kc, f, dv', hf, hM'⟩
  refine ⟨hu, gd, kg, kc, f, dv', hf, ?_⟩
  unfold Wk.as
  rw [List.append_assoc]
  exact hM'
theorem mck_ex : ∃ rk : Nat → Wk → Nat, ∀ (w0 : World), Tab w0 → Mck (InvK w0.heap.size) rk w0.heap.size w0 w0.heap.size := by
  obtain ⟨rk, hrk⟩ := rk_ex
  have key : ∀ {wt : Bool} {gw : Nat} {x : Wd} {t : Tre} {S : Nat → St} {o : List Dn} (c i : Nat) (_ : Inv wt gw x t S o) (_ : Ext x t S o) (_ : x.bs[c]? = some (i : Int)) (m : Nat → Nat) (_ : RkOk t m), RkP c x (rnk m x.V (S i)) := fun {wt gw x t S o} c i h X hb m hm => ⟨t, S, o, m, i, by rw [h.wt, h.pg]; exact h, X, hm, hb, rfl⟩
  refine ⟨fun c x => rk c x.wd, fun w0 htab => ⟨fun x ⟨⟨⟨_, _, _, h, _⟩, _⟩, _⟩ => h.pg, fun x c ⟨⟨⟨t, S, o, h, X⟩, _⟩, _⟩ hc => ?_, fun x ⟨⟨⟨_, _, _, h, _⟩, _⟩, _⟩ => h.now, fun x c i W fr hc ⟨⟨⟨t0, S0, o0, h0, X0⟩, hl⟩, hC⟩ hn hb hM => ?_, fun x c k key v W fr hc ⟨⟨⟨t, S, o, h, X⟩, _⟩, hC⟩ hl ho hb hM => ?_⟩⟩
  · rcases h.bs c hc with h1 | ⟨i, d, h1, h2, h3⟩
    · exact Or.inl h1
    · refine Or.inr ⟨⟨i, h1⟩, ?_⟩
      obtain ⟨m, hm1, hm2⟩ := rank_ex t h.tok
      obtain ⟨⟨t', S', o', m', i', hI, -, hm', hb', e⟩, -⟩ := hrk c x.wd _ (key c i h X h1 m ⟨hm1, hm2⟩)
      have hi : i = i' := by rw [h1] at hb'; have := Option.some.inj hb'; omega
      subst hi
      show 0 < rk c x.wd ∧ rk c x.wd ≤ 1000
      rw [e]
      exact rnk_rng hm' ((hI.ds i d h2).lv h3).ok
  · obtain ⟨m0, hm1, hm2⟩ := rank_ex t0 h0.tok
    obtain ⟨⟨t, S, o, m, i', hI, X, hm, hb', e⟩, -⟩ := hrk c x.wd _ (key c i h0 X0 hb m0 ⟨hm1, hm2⟩)
    have hi : i = i' := by rw [hb] at hb'; have := Option.some.inj hb'; omega
    subst hi
    rw [h0.wt, h0.pg] at hI
    obtain ⟨d, hd, hen⟩ : ∃ d, x.wd.ds[i]? = some d ∧ d.en = false := by
      rcases hI.bs c hc with h1 | ⟨j, d, h1, h2, h3⟩
      · rw [hb] at h1; have := Option.some.inj h1; omega
      · obtain rfl : i = j := by rw [hb] at h1; have := Option.some.inj h1; omega
        exact ⟨d, h2, h3⟩
    have C := (Mov.mk hI hc hb hd hen hn).movek X hC hm (by omega) fr w0 W w0.heap.size htab rfl hM
    rw [h0.pg] at C
    refine C.mono ?_
    rintro e2 w' ⟨hu, x', hx, hN, hC', hM'⟩
    rcases hx with ⟨t', S', o', hI', X', hb2⟩ | ⟨t', S', o', m', hI', X', hm', hb2, hlt⟩
    · exact ⟨hu, x', ⟨⟨⟨t', S', o', hI', X'⟩, by rw [hN.nd]; exact hl⟩, hC'⟩, ⟨hN.now, hN.nd, hN.bs⟩, Or.inl hb2, hM'⟩
    · refine ⟨hu, x', ⟨⟨⟨t', S', o', hI', X'⟩, by rw [hN.nd]; exact hl⟩, hC'⟩, ⟨hN.now, hN.nd, hN.bs⟩, Or.inr ?_, hM'⟩
      have := (hrk c x'.wd _ (key c i hI' X' hb2 m' hm')).2
      show rk c x'.wd < rk c x.wd
      omega
  · have hp := h.puts
    have C := begin_step_k x w0.heap.size h.pg c k key v fr w0 W w0.heap.size htab rfl hc (by omega) hp.1 (by omega) ho hM
    refine C.mono ?_
    rintro e w' ⟨hu, gd, kg, kc, f, dv, hf, hM'⟩
    refine ⟨hu, ⟨{ x.wd with dv := dv, bs := x.wd.bs.set c x.wd.ds.length, puts := pu k x.wd.puts, ds := x.wd.ds ++ [Dd.new gd kg kc k key v f] }, x.cv, x.C⟩, ⟨⟨⟨t, _, o, h.begun hc hb ho gd kg kc f dv hf, ⟨X.1.begun _ _ _ rfl rfl, X.2.begun _ gd kg kc k key v f rfl rfl rfl⟩⟩, ?_⟩, hC⟩, rfl, ?_, fun j hj => List.getElem?_set_ne (fun e => hj e.symm), hM'⟩
    · show (x.wd.ds ++ [_]).length ≤ _; rw [List.length_append, List.length_singleton]; omega
    · show (x.wd.ds ++ [_]).length = _; rw [List.length_append, List.length_singleton]
theorem inv_keeps (gw tg tc ug uc vg vc bg bc : Nat) : InvK gw ⟨Wd.first gw tg tc ug uc vg vc bg bc, .slice none 0 0, []⟩ :=
  ⟨⟨⟨_, _, _, inv_first gw tg tc ug uc vg vc bg bc, Xtr.first _ _, FulX.first gw tg tc ug uc vg vc bg bc _⟩, by show (0 : Nat) ≤ _; omega⟩, fun r hr => (by cases hr), Int.le_refl _⟩
theorem steady_any (sv : Value) (ts : List Tn) (w : World) (htab : Tab w) (hT : TRd w sv ts) (hok : ∀ t ∈ ts, t.ok) (hlen : ts.length ≤ 1048576) :
    Calls Tryd.prog 9 #[sv] w fun e w' => e = .returned (.bool true) ∧ Below w.heap.size w w' := by
  obtain ⟨rk0, G⟩ := good_ex
  obtain ⟨rk, hrk⟩ := mck_ex
  exact steady_gen sv ts (InvG false) rk0 InvK rk w htab hT hok hlen G hrk inv_keeps (fun _ _ h => h.2)
end Go.Proofs.YtajobgmnmbnhiaaDoor.Sap
