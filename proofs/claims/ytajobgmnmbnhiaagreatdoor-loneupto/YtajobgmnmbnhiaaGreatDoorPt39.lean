/- WHAT IS PROVED HERE: an access of an operation, as saplingkeep's move takes it: what tree.Next asks, what the pages reply, what tree.Tell answers (Moves), for each state that an operation may be in; and what move makes of the world with it. Conditions: named at each theorem. -/
import Derived.Test.YtajobgmnmbnhiaaGreatDoorPt38
namespace Go.Proofs.YtajobgmnmbnhiaaGreatDoor.Sap
open Go.RowKit
def Moves (kd : Int) (f : ByteArray) (T : List ByteArray) (U : List Bool) (V kns : List Int) (rf : Bool) (T' : List ByteArray) (U' : List Bool) (V' kns' : List Int) (rf' : Bool) (r : Res) : Prop :=
  ∃ (ak ap av rv rp : Int) (at' rt : ByteArray) (rd : Bool), (∀ W, Tab W → Calls Tryz.prog 42 #[.string f] W fun e w' => e = .returned (.tuple #[.agg #[.int .i64 ak, .int .i64 ap, .int .i64 av, .string at'], .int .i64 0]) ∧ Below W.heap.size W w') ∧ AccR kd ak ap av at' T U V kns rf rv rp rt rd T' U' V' kns' rf' ∧
    (∀ W, Tab W → Calls Tryz.prog 47 #[.string f, .agg #[.int .i64 rv, .int .i64 rp, .string rt, .bool rd]] W fun e w' => ResM r W W.heap.size w' [] e)
structure RdAt (s : St) (f : ByteArray) (n : Nd) (t : ByteArray) (ver : Int) (p : Nat) (T : List ByteArray) (U : List Bool) (V : List Int) : Prop where
  f : f.data.toList = frT s
  ok : StOk s
  sw : s.sw = ⟨#[]⟩
  pg : s.pg = (p : Int)
  p64 : p < 64
  U : U[p]? = some true
  T : T[p]? = some t
  V : V[p]? = some ver
  un : Unp t.data.toList n
  step : s.step ≤ 100000000
  v0 : 0 ≤ ver
theorem RdAt.moves {s : St} {f : ByteArray} {n : Nd} {t : ByteArray} {ver : Int} {p : Nat} {T : List ByteArray} {U : List Bool} {V : List Int} (h : RdAt s f n t ver p T U V) (kns : List Int) (rf : Bool) (r : Res) (hT : ∀ W, Tab W → Calls Tryz.prog 47 #[.string f, .agg #[.int .i64 ver, .int .i64 0, .string t, .bool false]] W fun e w' => ResM r W W.heap.size w' [] e) :
    Moves s.kd f T U V kns rf T U V (kns.set p ver) rf r :=
  ⟨1, s.pg, 0, ver, 0, ⟨#[]⟩, t, false, fun W _ => next_read s f W h.f h.ok h.sw, ⟨Or.inl ⟨p, rfl, h.pg, h.p64, rfl, rfl, h.U, h.T, h.V, rfl, rfl, rfl, rfl, rfl, rfl, rfl⟩⟩, hT⟩
theorem mv_on {s : St} {f : ByteArray} {n : Nd} {t : ByteArray} {ver : Int} {p : Nat} {T : List ByteArray} {U : List Bool} {V : List Int} (h : RdAt s f n t ver p T U V) (kns : List Int) (rf : Bool) (hgo : rdGo s n) (hnx : 0 ≤ onwV n (wantV s)) (hok : StOk { s with pg := onwV n (wantV s), step := s.step + 1 }) :
    Moves s.kd f T U V kns rf T U V (kns.set p ver) rf (.on { s with pg := onwV n (wantV s), step := s.step + 1 }) :=
  h.moves kns rf _ fun W ht => tell_on s n f t ver W ht h.f h.ok h.un h.sw hgo (by have := h.step; omega) hnx hok.i
theorem mv_get {s : St} {f : ByteArray} {n : Nd} {t : ByteArray} {ver : Int} {p : Nat} {T : List ByteArray} {U : List Bool} {V : List Int} (h : RdAt s f n t ver p T U V) (kns : List Int) (rf : Bool) (hgo : ¬ rdGo s n) (hk : s.kd = 1) :
    Moves s.kd f T U V kns rf T U V (kns.set p ver) rf (.fin 0 (fndB n.ks s.key n.ks.length) (fndV n.ks n.vs s.key n.ks.length) s.step [] [] []) :=
  h.moves kns rf _ fun W ht => tell_get s n f t ver W ht h.f h.ok h.un h.sw hgo hk
theorem mv_scan {s : St} {f : ByteArray} {n : Nd} {t : ByteArray} {ver : Int} {p : Nat} {T : List ByteArray} {U : List Bool} {V : List Int} (h : RdAt s f n t ver p T U V) (kns : List Int) (rf : Bool) (hgo : ¬ rdGo s n) (hk : s.kd = 4) (hb63 : s.bel.length ≤ 63) (hsk : ∀ x ∈ s.keys, 0 ≤ x ∧ x ≤ 10000) (hlk : scEnd s n = false → 0 ≤ n.lk ∧ StOk { scS s n with pg := n.lk, step := s.step + 1 }) :
    Moves s.kd f T U V kns rf T U V (kns.set p ver) rf (scO s n).res :=
  h.moves kns rf _ fun W ht => tell_scan s n f t ver W ht h.f h.ok h.un h.sw hgo hk (by have := h.step; omega) hb63 hsk fun e => ⟨(hlk e).1, (hlk e).2.i⟩
theorem mv_miss {s : St} {f : ByteArray} {n : Nd} {t : ByteArray} {ver : Int} {p : Nat} {T : List ByteArray} {U : List Bool} {V : List Int} (h : RdAt s f n t ver p T U V) (kns : List Int) (rf : Bool) (hgo : ¬ rdGo s n) (hk : s.kd = 3) (hfb : fndB n.ks s.key n.ks.length = false) :
    Moves s.kd f T U V kns rf T U V (kns.set p ver) rf (.fin 0 false (fndV n.ks n.vs s.key n.ks.length) s.step [] [] []) :=
  h.moves kns rf _ fun W ht => tell_miss s n f t ver W ht h.f h.ok h.un h.sw hgo hk hfb
theorem mv_see {s : St} {f : ByteArray} {n : Nd} {t : ByteArray} {ver : Int} {p : Nat} {T : List ByteArray} {U : List Bool} {V : List Int} (h : RdAt s f n t ver p T U V) (kns : List Int) (rf : Bool) (hgo : ¬ rdGo s n) (hk : s.kd = 2 ∨ (s.kd = 3 ∧ fndB n.ks s.key n.ks.length = true)) (hok : StOk (seeS s t ver)) (hp : PlOk n (seeS s t ver)) (hl9 : ¬ (0 < pgsN n (seeS s t ver) ∧ s.lv = 9)) (hok2 : StOk { seeS s t ver with step := s.step + 1 }) :
    Moves s.kd f T U V kns rf T U V (kns.set p ver) rf (.on { seeS s t ver with step := s.step + 1 }) :=
  h.moves kns rf _ fun W ht => by
    rcases hk with hk | ⟨hk, hfb⟩
    · exact tell_put_on s n f t ver W ht h.f h.ok h.un h.sw hgo hk hok hp h.v0 hl9 hok2.i (by have := h.step; omega)
    · exact tell_drop_on s n f t ver W ht h.f h.ok h.un h.sw hgo hk hfb hok hp h.v0 hl9 hok2.i (by have := h.step; omega)
theorem mv_last {s : St} {f : ByteArray} {n : Nd} {t : ByteArray} {ver : Int} {p : Nat} {T : List ByteArray} {U : List Bool} {V : List Int} (h : RdAt s f n t ver p T U V) (kns : List Int) (rf : Bool) (hgo : ¬ rdGo s n) (hk : s.kd = 2) (hok : StOk (seeS s t ver)) (hp : PlOk n (seeS s t ver)) (hl9 : 0 < pgsN n (seeS s t ver) ∧ s.lv = 9) :
    Moves s.kd f T U V kns rf T U V (kns.set p ver) rf (.fin 0 false 0 s.pt [] [] []) :=
  h.moves kns rf _ fun W ht => tell_put_last s n f t ver W ht h.f h.ok h.un h.sw hgo hk hok hp h.v0 hl9
structure WrAt (s : St) (f : ByteArray) (n : Nd) : Prop where
  f : f.data.toList = frT s
  ok : StOk s
  sw : s.sw ≠ ⟨#[]⟩
  pl : PlOk n s
  step : s.step ≤ 100000000
theorem WrAt.la {s : St} {f : ByteArray} {n : Nd} (h : WrAt s f n) : 0 ≤ s.laid ∧ s.laid ≤ 2 := by have := h.ok.laid.1; have := h.ok.laidL; have := h.ok.sp2; omega
def txtN (n : Nd) (s : St) : ByteArray := byt (packT (nxtN n s))
theorem txtN_unp {n : Nd} {s : St} (h : PlOk n s) : Unp (txtN n s).data.toList (nxtN n s) := ⟨h.rt, by unfold txtN byt; simp⟩
theorem WrAt.next {s : St} {f : ByteArray} {n : Nd} (h : WrAt s f n) {a b c : Int} (hw : wrA s (pgsN n s) = (a, b, c)) : ∀ W, Tab W → Calls Tryz.prog 42 #[.string f] W fun e w' => e = .returned (.tuple #[.agg #[.int .i64 a, .int .i64 b, .int .i64 c, .string (txtN n s)], .int .i64 0]) ∧ Below W.heap.size W w' := fun W ht => by
  have := next_write s n f W ht h.f h.ok h.pl h.sw h.la.2
  rw [hw] at this
  exact this
theorem mv_fresh_no {s : St} {f : ByteArray} {n : Nd} {T : List ByteArray} {U : List Bool} {V : List Int} (h : WrAt s f n) (kns : List Int) (rf : Bool) (h1 : s.laid ≠ pgsN n s) (h2 : ¬ s.laid < s.sp.length) (hU : ∀ k : Nat, k < 64 → U[k]? = some true) :
    Moves s.kd f T U V kns rf T U V kns true (frsR s (-1)) := by
  have hw : wrA s (pgsN n s) = (3, 0, 0) := by unfold wrA; rw [if_neg h1, if_neg h2]
  refine ⟨3, 0, 0, 0, -1, txtN n s, ⟨#[]⟩, false, h.next hw, ⟨Or.inr (Or.inr ⟨rfl, rfl, rfl, h.pl.kd, ⟨_, txtN_unp h.pl⟩, ⟨true, hU 0 (by omega)⟩, rfl, rfl, rfl, Or.inr ⟨hU, rfl, rfl, rfl, rfl, rfl, rfl⟩⟩)⟩, fun W ht => ?_⟩
  exact tell_tellFresh_pass s n f ⟨#[]⟩ 0 (-1) false W ht h.f h.ok h.pl h.sw h.la.2 _ (fun kv vv bv pv xv yv fr1 W1 hM => tellFresh_no s kv vv bv pv xv yv fr1 W W1 _ hM) (by rw [hw])
theorem mv_fresh_on {s : St} {f : ByteArray} {n : Nd} {T : List ByteArray} {U : List Bool} {V : List Int} (h : WrAt s f n) (kns : List Int) (rf : Bool) (h1 : s.laid ≠ pgsN n s) (h2 : ¬ s.laid < s.sp.length) {g : Nat} (g1 : 1 ≤ g) (g64 : g < 64) (hg : U[g]? = some false) (hU : ∀ k : Nat, k < g → U[k]? = some true) (hT : ∃ t0, T[g]? = some t0) (hV : ∃ v0, V[g]? = some v0) (hok : StOk (frsS s g)) :
    Moves s.kd f T U V kns rf (T.set g (txtN n s)) (U.set g true) (V.set g 0) (kns.set g 0) rf (.on (frsS s g)) := by
  have hw : wrA s (pgsN n s) = (3, 0, 0) := by unfold wrA; rw [if_neg h1, if_neg h2]
  have hst := h.step
  have hl := h.ok.sp2
  have hs2 := h.ok.spl
  refine ⟨3, 0, 0, 0, g, txtN n s, ⟨#[]⟩, false, h.next hw, ⟨Or.inr (Or.inr ⟨rfl, rfl, rfl, h.pl.kd, ⟨_, txtN_unp h.pl⟩, ⟨true, hU 0 (by omega)⟩, rfl, rfl, rfl, Or.inl ⟨g, g64, hg, hU, hT, hV, rfl, rfl, rfl, rfl, rfl, rfl⟩⟩)⟩, fun W ht => ?_⟩
  exact tell_tellFresh_pass s n f ⟨#[]⟩ 0 g false W ht h.f h.ok h.pl h.sw h.la.2 _ (fun kv vv bv pv xv yv fr1 W1 hM => tellFresh_on s g kv vv bv pv xv yv fr1 W W1 _ ht rfl (by omega) (by omega) hl (by omega) h.la.1 h.la.2 hok.i (by omega) h.ok.step.1 hM) (by rw [hw])
theorem mv_spare {s : St} {f : ByteArray} {n : Nd} {T : List ByteArray} {U : List Bool} {V : List Int} (h : WrAt s f n) (kns : List Int) (rf : Bool) (h1 : s.laid < pgsN n s) {p : Nat} {ver : Int} (h2 : s.sp[s.laid.toNat]? = some (p : Int)) (h3 : s.sv[s.laid.toNat]? = some ver) (hU : U[p]? = some true) (hV : V[p]? = some ver) (hk : kns[p]? = some ver) (hT : ∃ t0, T[p]? = some t0) (hvb : ∀ x ∈ s.sv, 0 ≤ x ∧ x ≤ 1000000000) (hok : StOk (sprS s)) :
    Moves s.kd f T U V kns rf (T.set p (txtN n s)) U (V.set p (ver + 1)) (kns.set p (ver + 1)) rf (.on (sprS s)) := by
  have hla := h.la
  have hlt : s.laid.toNat < s.sp.length := (List.getElem?_eq_some_iff.1 h2).1
  have hw : wrA s (pgsN n s) = (2, (p : Int), ver) := by unfold wrA; rw [if_neg (by omega), if_pos (by omega), h2, h3]; rfl
  have hst := h.step
  have hl := h.ok.sp2
  have hs2 := h.ok.spl
  have hp63 := h.ok.sp _ (List.mem_of_getElem? h2)
  have hv := hvb _ (List.mem_of_getElem? h3)
  refine ⟨2, p, ver, 0, 0, txtN n s, ⟨#[]⟩, true, h.next hw, ⟨Or.inr (Or.inl ⟨p, rfl, rfl, by omega, hv.1, hv.2, h.pl.kd, ⟨_, txtN_unp h.pl⟩, hU, hk, rfl, rfl, rfl, rfl, rfl, Or.inl ⟨hV, rfl, hT, rfl, rfl, rfl⟩⟩)⟩, fun W ht => ?_⟩
  exact tell_tellSpare_pass s n f ⟨#[]⟩ 0 0 true W ht h.f h.ok h.pl h.sw h.la.2 _ (fun kv vv bv pv xv yv fr1 W1 hM => tellSpare_yes s kv vv bv pv xv yv fr1 W W1 _ ht rfl h.la.1 (by omega) (by omega) (fun x hx => by have := hvb x hx; omega) hok.i (by omega) h.ok.step.1 hM) ⟨by rw [hw], h1⟩
theorem mv_swap_no {s : St} {f : ByteArray} {n : Nd} {T : List ByteArray} {U : List Bool} {V : List Int} (h : WrAt s f n) (kns : List Int) (rf : Bool) (h1 : s.laid = pgsN n s) {p : Nat} {cur : Int} (h2 : s.pg = (p : Int)) (hU : U[p]? = some true) (hV : V[p]? = some cur) (hne : cur ≠ s.ver) (hk : kns[p]? = some s.ver) (hvb : 0 ≤ s.ver ∧ s.ver ≤ 1000000000) (hok : StOk { clrS s with pg := s.pg, step := s.step + 1 }) :
    Moves s.kd f T U V kns rf T U V kns rf (.on { clrS s with pg := s.pg, step := s.step + 1 }) := by
  have hw : wrA s (pgsN n s) = (2, s.pg, s.ver) := by unfold wrA; rw [if_pos h1]
  have hst := h.step
  have hpg := h.ok.pg
  refine ⟨2, s.pg, s.ver, 0, 0, txtN n s, ⟨#[]⟩, false, h.next hw, ⟨Or.inr (Or.inl ⟨p, rfl, h2, by omega, hvb.1, hvb.2, h.pl.kd, ⟨_, txtN_unp h.pl⟩, hU, hk, rfl, rfl, rfl, rfl, rfl, Or.inr ⟨cur, hV, hne, rfl, rfl, rfl, rfl⟩⟩)⟩, fun W ht => ?_⟩
  exact tell_swap_pass s n f ⟨#[]⟩ 0 0 false W ht h.f h.ok h.pl h.sw h.la.2 _ (fun kv vv bv pv ka va ax ay kc vc cx cy T W1 ht1 hv _ _ _ _ => tellSwap_not s n (pgsN n s) (lowV n s) T kv vv bv pv ka va ax ay kc vc cx cy W1 ht1 hv hok.i (by omega) h.ok.step.1 hpg.1) ⟨by rw [hw], h1⟩
theorem mv_swap_fin {s : St} {f : ByteArray} {n : Nd} {T : List ByteArray} {U : List Bool} {V : List Int} (h : WrAt s f n) (kns : List Int) (rf : Bool) (h1 : s.laid = pgsN n s) {p : Nat} (h2 : s.pg = (p : Int)) (hU : U[p]? = some true) (hV : V[p]? = some s.ver) (hT : ∃ t0, T[p]? = some t0) (hk : kns[p]? = some s.ver) (hvb : 0 ≤ s.ver ∧ s.ver ≤ 1000000000) (hpg : pgsN n s ≠ 1) :
    Moves s.kd f T U V kns rf (T.set p (txtN n s)) U (V.set p (s.ver + 1)) (kns.set p (s.ver + 1)) rf (if s.lv = 0 then .fin 0 (fndB n.ks s.key n.ks.length) (fndV n.ks n.vs s.key n.ks.length) s.step [] [] [] else .fin 0 false 0 s.pt [] [] []) := by
  have hw : wrA s (pgsN n s) = (2, s.pg, s.ver) := by unfold wrA; rw [if_pos h1]
  have hpg2 := h.ok.pg
  have hb := right_bd n h.pl.un.1
  refine ⟨2, s.pg, s.ver, 0, 0, txtN n s, ⟨#[]⟩, true, h.next hw, ⟨Or.inr (Or.inl ⟨p, rfl, h2, by omega, hvb.1, hvb.2, h.pl.kd, ⟨_, txtN_unp h.pl⟩, hU, hk, rfl, rfl, rfl, rfl, rfl, Or.inl ⟨hV, rfl, hT, rfl, rfl, rfl⟩⟩)⟩, fun W ht => ?_⟩
  refine tell_swap_pass s n f ⟨#[]⟩ 0 0 true W ht h.f h.ok h.pl h.sw h.la.2 _ (fun kv vv bv pv ka va ax ay kc vc cx cy T W1 ht1 hv hkd hvd _ _ => ?_) ⟨by rw [hw], h1⟩
  by_cases hl : s.lv = 0
  · rw [if_pos hl]
    exact (tellSwap_fin0 s n (pgsN n s) (lowV n s) T kv vv bv pv ka va ax ay kc vc cx cy W1 ht1 hv hl hkd hvd hb.2.2.2.1 hb.2.2.2.2.1 hpg).mono fun _ _ ⟨he, hb⟩ => ⟨⟨rfl, rfl, rfl, he⟩, hb⟩
  · rw [if_neg hl]
    exact (tellSwap_finN s n (pgsN n s) (lowV n s) T kv vv bv pv ka va ax ay kc vc cx cy W1 ht1 hv hl hpg).mono fun _ _ ⟨he, hb⟩ => ⟨⟨rfl, rfl, rfl, he⟩, hb⟩
def enS (n : Nd) (s : St) : St := entS { clrS s with pt := if s.lv = 0 then s.step else s.pt } (lowV n s)
theorem mv_swap_ent {s : St} {f : ByteArray} {n : Nd} {T : List ByteArray} {U : List Bool} {V : List Int} (h : WrAt s f n) (kns : List Int) (rf : Bool) (h1 : s.laid = pgsN n s) {p : Nat} (h2 : s.pg = (p : Int)) (hU : U[p]? = some true) (hV : V[p]? = some s.ver) (hT : ∃ t0, T[p]? = some t0) (hk : kns[p]? = some s.ver) (hvb : 0 ≤ s.ver ∧ s.ver ≤ 1000000000) (hpg : pgsN n s = 1) (hok : StOk (enS n s)) :
    Moves s.kd f T U V kns rf (T.set p (txtN n s)) U (V.set p (s.ver + 1)) (kns.set p (s.ver + 1)) rf (.on (enS n s)) := by
  have hw : wrA s (pgsN n s) = (2, s.pg, s.ver) := by unfold wrA; rw [if_pos h1]
  have hst := h.step
  have hpg2 := h.ok.pg
  have hb := right_bd n h.pl.un.1
  have hl2 := h.ok.sp2
  have hla := h.ok.laidL
  have hl9 : 0 ≤ s.lv ∧ s.lv ≤ 9 := by rw [← h.pl.lv]; exact ⟨hb.1, hb.2.1⟩
  refine ⟨2, s.pg, s.ver, 0, 0, txtN n s, ⟨#[]⟩, true, h.next hw, ⟨Or.inr (Or.inl ⟨p, rfl, h2, by omega, hvb.1, hvb.2, h.pl.kd, ⟨_, txtN_unp h.pl⟩, hU, hk, rfl, rfl, rfl, rfl, rfl, Or.inl ⟨hV, rfl, hT, rfl, rfl, rfl⟩⟩)⟩, fun W ht => ?_⟩
  refine tell_swap_pass s n f ⟨#[]⟩ 0 0 true W ht h.f h.ok h.pl h.sw h.la.2 _ (fun kv vv bv pv ka va ax ay kc vc cx cy T W1 ht1 hv hkd hvd hcx hcy => ?_) ⟨by rw [hw], h1⟩
  have hokI := hok.i
  unfold enS at hokI ⊢
  by_cases hl : s.lv = 0
  · rw [if_pos hl] at hokI ⊢
    exact tellSwap_ent0 s n (pgsN n s) (lowV n s) T kv vv bv pv ka va ax ay kc vc cx cy W1 ht1 hv hl hkd hvd hb.2.2.2.1 hb.2.2.2.2.1 hpg (by omega) hl2 h.ok.spl hcx hcy hokI (by omega) h.ok.step.1 hl9
  · rw [if_neg hl] at hokI ⊢
    exact tellSwap_entN s n (pgsN n s) (lowV n s) T kv vv bv pv ka va ax ay kc vc cx cy W1 ht1 hv hl hpg (by omega) hl2 h.ok.spl hcx hcy hokI (by omega) h.ok.step.1 hl9
theorem move_on (x : Wd) (d : Dd) (c i : Nat) (rf' : Bool) (kns' V' : List Int) (T' : List ByteArray) (U' : List Bool) (s' : St) (fr : List As) (w0 w : World) (B : Nat) (htab : Tab w0) (hB : B = w0.heap.size) (hc : c < 64) (hb : x.bs[c]? = some (i : Int)) (hd : x.ds[i]? = some d) (hlive : d.live) (hkp : x.kp = false)
    (hSt : x.wt = true → ∀ W, PgR x.gw x.tg x.tc x.ug x.uc T' U' W → Calls Tryz.prog 46 #[.pointer (some ⟨x.gw, 0, none⟩)] W fun e w' => e = .returned (.bool true) ∧ Below W.heap.size W w')
    (hnd : x.ds.length ≤ 100000000) (hnt : d.ts.length ≤ 100000000) (hnw : 0 ≤ x.now ∧ x.now ≤ 100000000000) (hA : Moves d.k d.f x.T x.U x.V d.kns d.rf T' U' V' kns' rf' (.on s')) (h : M w0 B w (x.as ++ fr)) :
    Calls Tryz.prog 28 #[.pointer (some ⟨x.gw, 0, none⟩), .int .i64 c] w fun e w' => (∃ u, e = .returned u) ∧ ∃ tm' f', f'.data.toList = frT s' ∧ M w0 B w' (({ x with T := T', U := U', V := V', now := x.now + 1, rf := x.rf || rf', ds := x.ds.set i { d with tm := tm', f := f', ts := d.ts ++ [x.now], kns := kns', rf := rf' } } : Wd).as ++ fr) := by
  obtain ⟨ak, ap, av, rv, rp, at', rt, rd, hN, hR, hT⟩ := hA
  exact sys_go x d c i ak ap av rv rp at' rt rd rf' kns' V' T' U' (fun f => f.data.toList = frT s') fr w0 w B htab hB hc hb hd hlive hkp (fun e _ => hSt e) hnd hnt hnw hN hR (fun W ht => (hT W ht).mono fun _ _ ⟨⟨c5, he, hc5⟩, hm⟩ => ⟨c5, he, hc5, hm.bl⟩) h
theorem move_fin (x : Wd) (d : Dd) (c i : Nat) (rf' : Bool) (kns' V' : List Int) (T' : List ByteArray) (U' : List Bool) (er : Int) (fd : Bool) (va pt : Int) (ks vs : List Int) (cs : List (Int × Int)) (fr : List As) (w0 w : World) (B : Nat) (htab : Tab w0) (hB : B = w0.heap.size) (hc : c < 64) (hb : x.bs[c]? = some (i : Int)) (hd : x.ds[i]? = some d) (hlive : d.live) (hkp : x.kp = false)
    (hSt : x.wt = true → ∀ W, PgR x.gw x.tg x.tc x.ug x.uc T' U' W → Calls Tryz.prog 46 #[.pointer (some ⟨x.gw, 0, none⟩)] W fun e w' => e = .returned (.bool true) ∧ Below W.heap.size W w')
    (hnd : x.ds.length ≤ 100000000) (hnt : d.ts.length ≤ 100000000) (hnw : 0 ≤ x.now ∧ x.now ≤ 100000000000) (hA : Moves d.k d.f x.T x.U x.V d.kns d.rf T' U' V' kns' rf' (.fin er fd va pt ks vs cs)) (h : M w0 B w (x.as ++ fr)) :
    Calls Tryz.prog 28 #[.pointer (some ⟨x.gw, 0, none⟩), .int .i64 c] w fun e w' => (∃ u, e = .returned u) ∧ ∃ tm' kv vv cv, M w0 B w' (({ x with T := T', U := U', V := V', bs := x.bs.set c (-1), now := x.now + 1, rf := x.rf || rf', ds := x.ds.set i { d with tm := tm', f := ⟨#[]⟩, ts := d.ts ++ [x.now], kns := kns', rf := rf', en := true, er := er, fd := fd, va := va, pt := pt, kv := kv, vv := vv, cv := cv, ks := ks, vs := vs, cs := cs } } : Wd).as ++ fr) := by
  obtain ⟨ak, ap, av, rv, rp, at', rt, rd, hN, hR, hT⟩ := hA
  exact sys_end x d c i ak ap av rv rp at' rt rd rf' kns' V' T' U' er fd va pt ks vs cs fr w0 w B htab hB hc hb hd hlive hkp (fun e _ => hSt e) hnd hnt hnw hN hR hT h
def Dd.go (d : Dd) (now : Int) (tm : Value) (f : ByteArray) (kns : List Int) (rf : Bool) : Dd := { d with tm := tm, f := f, ts := d.ts ++ [now], kns := kns, rf := rf }
def Dd.fin (d : Dd) (now : Int) (kns : List Int) (rf : Bool) (er : Int) (fd : Bool) (va pt : Int) (ks vs : List Int) (cs : List (Int × Int)) (tm kv vv cv : Value) : Dd :=
  { d with tm := tm, f := ⟨#[]⟩, ts := d.ts ++ [now], kns := kns, rf := rf, en := true, er := er, fd := fd, va := va, pt := pt, kv := kv, vv := vv, cv := cv, ks := ks, vs := vs, cs := cs }
structure RkOk (t : Tre) (m : Nat → Nat) : Prop where
  le : ∀ p, m p ≤ 64
  lt : ∀ p q, t.inn q → Nearer t q p → m q < m p
def rnk (m : Nat → Nat) (V : List Int) (s : St) : Nat :=
  if s.sw.size = 0 then m s.pg.toNat + 4 + 70 * (9 - s.lv).toNat
  else (2 - s.laid).toNat + 1 + (if V[s.pg.toNat]? = some s.ver then 70 * (9 - s.lv).toNat else m s.pg.toNat + 4 + 70 * (9 - s.lv).toNat)
theorem sz0 {b : ByteArray} (h : b.size = 0) : b = ⟨#[]⟩ := by
  cases b with
  | mk a =>
    have : a = #[] := Array.eq_empty_of_size_eq_zero h
    rw [this]
theorem rnk_rd {m : Nat → Nat} {V : List Int} {s : St} (h : s.sw = ⟨#[]⟩) : rnk m V s = m s.pg.toNat + 4 + 70 * (9 - s.lv).toNat := by
  unfold rnk; rw [h]; exact if_pos rfl
theorem rnk_wr {m : Nat → Nat} {V : List Int} {s : St} (h : s.sw ≠ ⟨#[]⟩) : rnk m V s = (2 - s.laid).toNat + 1 + (if V[s.pg.toNat]? = some s.ver then 70 * (9 - s.lv).toNat else m s.pg.toNat + 4 + 70 * (9 - s.lv).toNat) := by
  unfold rnk; rw [if_neg (fun e => h (sz0 e))]
structure Mov (wt : Bool) (gw : Nat) (x : Wd) (t : Tre) (S : Nat → St) (o : List Dn) (c i : Nat) (d : Dd) : Prop where
  inv : Inv wt gw x t S o
  cl : c < 64
  bs : x.bs[c]? = some (i : Int)
  ds : x.ds[i]? = some d
  en : d.en = false
  now : x.now ≤ 90000000
theorem Mov.live {wt : Bool} {gw : Nat} {x : Wd} {t : Tre} {S : Nat → St} {o : List Dn} {c i : Nat} {d : Dd} (h : Mov wt gw x t S o c i d) : Live t x.T x.U x.V o (S i) d := (h.inv.ds i d h.ds).lv h.en
theorem Mov.step {wt : Bool} {gw : Nat} {x : Wd} {t : Tre} {S : Nat → St} {o : List Dn} {c i : Nat} {d : Dd} (h : Mov wt gw x t S o c i d) : 0 ≤ (S i).step ∧ (S i).step ≤ 90000000 := by
  have h1 := h.live.step
  have h2 := (h.inv.ds i d h.ds).nt
  have h3 := h.now
  omega
theorem Mov.all {wt : Bool} {gw : Nat} {x : Wd} {t : Tre} {S : Nat → St} {o : List Dn} {c i : Nat} {d : Dd} (h : Mov wt gw x t S o c i d) : ahead o x.now = o := ahead_all o x.now h.inv.ot
theorem Mov.chg0 {wt : Bool} {gw : Nat} {x : Wd} {t : Tre} {S : Nat → St} {o : List Dn} {c i : Nat} {d : Dd} (h : Mov wt gw x t S o c i d) : Chg x.now t t (S i) x.T x.T x.U x.U x.V x.V o :=
  Chg.none h.inv.tok h.inv.tl h.inv.ul h.inv.vl h.inv.say h.inv.us h.inv.vb h.inv.lf
theorem Mov.page {wt : Bool} {gw : Nat} {x : Wd} {t : Tre} {S : Nat → St} {o : List Dn} {c i : Nat} {d : Dd} (h : Mov wt gw x t S o c i d) : ∃ (p : Nat) (tx : ByteArray) (ver : Int), (S i).pg = (p : Int) ∧ p < 64 ∧ (S i).pg.toNat = p ∧ t.inn p ∧ x.U[p]? = some true ∧ x.T[p]? = some tx ∧ x.V[p]? = some ver ∧ Unp tx.data.toList (t.nd p) ∧ 0 ≤ ver ∧ ver ≤ x.now := by
  obtain ⟨p, h1, h2, h3⟩ := h.live.ok.pgN
  have hw := h.live.way.inn
  rw [h3] at hw
  obtain ⟨-, hU, tx, hT, hu⟩ := h.inv.say p hw
  have hV : x.V[p]? = some (x.V[p]'(by rw [h.inv.vl]; exact h2)) := List.getElem?_eq_getElem _
  exact ⟨p, tx, _, h1, h2, h3, hw, hU, hT, hV, hu, (h.inv.vb p _ hV).1, (h.inv.vb p _ hV).2⟩
theorem Mov.rdAt {wt : Bool} {gw : Nat} {x : Wd} {t : Tre} {S : Nat → St} {o : List Dn} {c i : Nat} {d : Dd} (h : Mov wt gw x t S o c i d) (hsw : (S i).sw = ⟨#[]⟩) {p : Nat} {tx : ByteArray} {ver : Int} (h1 : (S i).pg = (p : Int)) (h2 : p < 64) (hU : x.U[p]? = some true) (hT : x.T[p]? = some tx) (hV : x.V[p]? = some ver) (hu : Unp tx.data.toList (t.nd p)) (hv : 0 ≤ ver) : RdAt (S i) d.f (t.nd p) tx ver p x.T x.U x.V :=
  ⟨h.live.f, h.live.ok, hsw, h1, h2, hU, hT, hV, hu, by have := h.step; omega, hv⟩
theorem SprOk.kns {t : Tre} {U : List Bool} {V kns : List Int} {s s' : St} {p : Nat} (h : SprOk t U V kns s) (hp : t.inn p) (v : Int) (e1 : s'.sp = s.sp) (e2 : s'.sv = s.sv) : SprOk t U V (kns.set p v) s' := by
  refine ⟨by rw [e1]; exact h.nd, fun j a hj => ?_⟩
  rw [e1] at hj
  rw [e2]
  obtain ⟨q, h1, h2, h3, h4, h5, u, h6, h7, h8⟩ := h.ok j a hj
  exact ⟨q, h1, h2, h3, h4, h5, u, h6, h7, by rw [List.getElem?_set_ne (show p ≠ q from fun e => h4 (e ▸ hp))]; exact h8⟩
theorem StOk.on {s : St} (h : StOk s) {q : Int} (hq : 0 ≤ q ∧ q ≤ 63) (hs : s.step ≤ 1000000000) : StOk { s with pg := q, step := s.step + 1 } :=
  ⟨h.op, h.val, by have := h.step; unfold Fr at this ⊢; simp only; omega, hq, h.keys, h.vals, h.pts, h.kl, h.kl12, h.bl, h.bl64, h.bel, h.seen, h.ver, h.laid, h.lv, h.low, h.ch, h.pt, h.swL, h.sw, h.sp, h.sv, h.spk, h.spl, h.sp2, h.laidL, by
    rcases h.ent with h1 | h1
    · exact Or.inl h1
    · exact Or.inr ⟨h1.1, h1.2.1, h1.2.2.1, by show s.pt < s.step + 1; omega, h1.2.2.2.2⟩⟩
theorem StOk.want {s : St} (h : StOk s) : 1 ≤ wantV s ∧ wantV s ≤ 9999 ∧ (s.kd = 4 → wantV s ≤ s.val) := by
  have hr := h.rng
  unfold wantV
  rcases h.ent with h1 | h1
  · rw [if_neg (by omega)]
    cases hb : s.bel.getLast? with
    | none =>
      refine ⟨hr.2.2.1, hr.2.2.2, fun hk => ?_⟩
      have := h.op
      simp only [opR, Bool.and_eq_true, Bool.or_eq_true, decide_eq_true_eq] at this
      show s.key ≤ s.val
      omega
    | some b =>
      have h2 := keysOk_all _ _ _ h.bel b (List.mem_of_getLast? hb)
      have := h.op
      simp only [opR, Bool.and_eq_true, Bool.or_eq_true, decide_eq_true_eq] at this
      have h4 : s.kd = 4 := by
        rcases h.seen with h3 | h3
        · exact h3
        · rw [h3.2.2.1] at hb; cases hb
      show 1 ≤ b ∧ b ≤ 9999 ∧ _
      refine ⟨by omega, by omega, fun _ => by show b ≤ s.val; omega⟩
  · rw [if_pos (by omega)]
    exact ⟨by omega, by omega, fun hk => by omega⟩
theorem StOk.lv0 {s : St} (h : StOk s) (hk : s.kd ≠ 2) : s.lv = 0 := by
  rcases h.ent with h1 | h1
  · exact h1.1
  · exact absurd h1.2.2.1 hk
theorem StOk.lvb {s : St} (h : StOk s) : 0 ≤ s.lv ∧ s.lv ≤ 9 := by
  rcases h.ent with h1 | h1 <;> omega
theorem StOk.wkey {s : St} (h : StOk s) (hl : s.lv = 0) (hk : s.kd ≠ 4) : wantV s = s.key := by
  unfold wantV
  rw [if_neg (by omega)]
  rcases h.seen with h1 | h1
  · exact absurd h1 hk
  · rw [h1.2.2.1]; rfl
theorem eff_live {s s' : St} {d d' : Dd} {now : Int} {o : List Dn} (h0 : d.en = false) (h1 : d'.en = false) (hl : s'.lv = s.lv) (hp : s'.pt = s.pt) (hts : d'.ts = d.ts ++ [now]) (hop : d'.k = d.k ∧ d'.key = d.key ∧ d'.v = d.v) (hpt : 0 < s.lv → 0 ≤ s.pt ∧ s.pt < d.ts.length) : Took s s' d d' now o o := by
  refine Or.inl ⟨?_, rfl⟩
  unfold effD
  rw [h0, h1, hl, hp, hop.1, hop.2.1, hop.2.2, hts]
  split
  · rename_i h; cases h
  · split
    · rename_i h2; rw [ts_more (hpt h2)]
    · rfl
theorem Mov.rd_on {wt : Bool} {gw : Nat} {x : Wd} {t : Tre} {S : Nat → St} {o : List Dn} {c i : Nat} {d : Dd} (h : Mov wt gw x t S o c i d) {m : Nat → Nat} (hm : RkOk t m) (hsw : (S i).sw = ⟨#[]⟩) {p : Nat} {tx : ByteArray} {ver : Int} (h1 : (S i).pg = (p : Int)) (h2 : p < 64) (hp : t.inn p) (hU : x.U[p]? = some true) (hT : x.T[p]? = some tx) (hV : x.V[p]? = some ver) (hu : Unp tx.data.toList (t.nd p)) (hv : 0 ≤ ver) (hgo : rdGo (S i) (t.nd p)) :
    Moves (S i).kd d.f x.T x.U x.V d.kns d.rf x.T x.U x.V (d.kns.set p ver) d.rf (.on { S i with pg := onwV (t.nd p) (wantV (S i)), step := (S i).step + 1 }) ∧
    (∀ tm f rf', f.data.toList = frT { S i with pg := onwV (t.nd p) (wantV (S i)), step := (S i).step + 1 } → Inv wt gw { x with now := x.now + 1, rf := rf', ds := x.ds.set i (d.go x.now tm f (d.kns.set p ver) d.rf) } t (upS S i { S i with pg := onwV (t.nd p) (wantV (S i)), step := (S i).step + 1 }) o) ∧
    rnk m x.V { S i with pg := onwV (t.nd p) (wantV (S i)), step := (S i).step + 1 } < rnk m x.V (S i) := by
  have L := h.live
  have hst := h.step
  have hD := h.inv.ds i d h.ds
  have hpn : (S i).pg.toNat = p := by omega
  have hw := L.way
  rw [hpn] at hw
  have hwb := L.ok.want
  obtain ⟨q, q1, q2, q3, q4⟩ := hw.onw h.inv.tok L.ok.lvb.1 hwb.2.1 hgo
  have hok : StOk { S i with pg := onwV (t.nd p) (wantV (S i)), step := (S i).step + 1 } := L.ok.on (by rw [q1]; omega) (by omega)
  have ha : ∀ τ ∈ d.ts, ahead o τ = ahead o τ := fun _ _ => rfl
  refine ⟨mv_on (h.rdAt hsw h1 h2 hU hT hV hu hv) _ _ hgo (by rw [q1]; omega) hok, fun tm f rf' hf => ?_, ?_⟩
  · refine h.inv.step h.cl h.bs h.ds h.en h.chg0 ⟨rfl, rfl, rfl⟩ rfl (by show (d.kns.set p ver).length = 64; rw [List.length_set]; exact hD.kl) (eff_live h.en h.en rfl rfl rfl ⟨rfl, rfl, rfl⟩ fun h0 => (L.ent h0).pt) (fun a ha => Or.inl ha) (Or.inl ⟨h.en, rfl, ?_⟩)
    refine ⟨L.live, hok, hf, L.kd, L.key, L.val, ?_, L.spr.kns hp ver rfl rfl, fun h0 => ?_, ?_, fun e => absurd hsw e, fun hk => ?_⟩
    · show (S i).step + 1 = ((d.ts ++ [x.now]).length : Int)
      rw [List.length_append, List.length_singleton, L.step]; rfl
    · have e := ent_mono (d' := d.go x.now tm f (d.kns.set p ver) d.rf) (Grows.refl t) L.ok h0 (L.ent h0) rfl (Or.inr ⟨x.now, rfl⟩) ha
      exact ⟨e.ch, e.pt, e.no⟩
    · show Way t (onwV (t.nd p) (wantV (S i))).toNat (S i).lv (wantV (S i))
      rw [q1, Int.toNat_natCast]; exact q2
    · have hs := L.sc hk
      exact ⟨hs.1.mono x.now ha, hs.2⟩
  · rw [rnk_rd hsw, rnk_rd (show ({ S i with pg := onwV (t.nd p) (wantV (S i)), step := (S i).step + 1 } : St).sw = _ from hsw)]
    show m (onwV (t.nd p) (wantV (S i))).toNat + 4 + 70 * (9 - (S i).lv).toNat < _
    rw [q1, Int.toNat_natCast, hpn]
    have := hm.lt p q q2.inn q4
    omega
theorem fnd_lmap {n : Nd} (hr : rightB n = true) (q : Int) : fndB n.ks q n.ks.length = (lmap n q).isSome ∧ fndV n.ks n.vs q n.ks.length = (lmap n q).getD 0 := by
  have hb := right_bd n hr
  have := fnd_look n.ks n.vs q (right_pw n hr) hb.2.2.2.1 n.ks.length (Nat.le_refl _)
  rw [List.take_of_length_le (by simp; omega)] at this
  exact this
theorem Mov.leaf {wt : Bool} {gw : Nat} {x : Wd} {t : Tre} {S : Nat → St} {o : List Dn} {c i : Nat} {d : Dd} (h : Mov wt gw x t S o c i d) {p : Nat} (h1 : (S i).pg = (p : Int)) (hgo : ¬ rdGo (S i) (t.nd p)) : (t.nd p).lv = (S i).lv ∧ wantV (S i) < (t.nd p).hi ∧ t.low p ≤ wantV (S i) ∧ ((S i).lv = 0 → ∀ q, t.low p ≤ q → q < (t.nd p).hi → lmap (t.nd p) q = mapO o q) := by
  have hw := h.live.way
  rw [show (S i).pg.toNat = p by omega] at hw
  unfold rdGo at hgo
  have := hw.lv
  exact ⟨by omega, by omega, hw.lo, fun h0 q q1 q2 => h.inv.lf p hw.inn (by omega) q q1 q2⟩
theorem at_end (d : Dd) (now : Int) (kns : List Int) (rf : Bool) (er : Int) (fd : Bool) (va pt : Int) (ks vs : List Int) (cs : List (Int × Int)) (tm kv vv cv : Value) (hp : pt = d.ts.length) : (d.fin now kns rf er fd va pt ks vs cs tm kv vv cv).at = now := by
  show (d.ts ++ [now])[pt.toNat]?.getD 0 = now
  rw [hp, Int.toNat_natCast]; exact at_now _ _
theorem Mov.rd_get {wt : Bool} {gw : Nat} {x : Wd} {t : Tre} {S : Nat → St} {o : List Dn} {c i : Nat} {d : Dd} (h : Mov wt gw x t S o c i d) (hsw : (S i).sw = ⟨#[]⟩) {p : Nat} {tx : ByteArray} {ver : Int} (h1 : (S i).pg = (p : Int)) (h2 : p < 64) (hU : x.U[p]? = some true) (hT : x.T[p]? = some tx) (hV : x.V[p]? = some ver) (hu : Unp tx.data.toList (t.nd p)) (hv : 0 ≤ ver) (hgo : ¬ rdGo (S i) (t.nd p)) (hk : (S i).kd = 1) :
    Moves (S i).kd d.f x.T x.U x.V d.kns d.rf x.T x.U x.V (d.kns.set p ver) d.rf (.fin 0 (lmap (t.nd p) d.key).isSome ((lmap (t.nd p) d.key).getD 0) d.ts.length [] [] []) ∧
    ∀ tm kv vv cv rf', Inv wt gw { x with bs := x.bs.set c (-1), now := x.now + 1, rf := rf', ds := x.ds.set i (d.fin x.now (d.kns.set p ver) d.rf 0 (lmap (t.nd p) d.key).isSome ((lmap (t.nd p) d.key).getD 0) d.ts.length [] [] [] tm kv vv cv) } t (upS S i (S i)) o := by
  have L := h.live
  have hD := h.inv.ds i d h.ds
  obtain ⟨k1, k2, k3, k4⟩ := h.leaf h1 hgo
  have hl0 := L.ok.lv0 (by omega)
  have hwk := L.ok.wkey hl0 (by omega)
  have hf := fnd_lmap hu.1 (S i).key
  have hkd : d.k = 1 := by rw [← L.kd]; exact hk
  refine ⟨?_, fun tm kv vv cv rf' => ?_⟩
  · have := mv_get (h.rdAt hsw h1 h2 hU hT hV hu hv) d.kns d.rf hgo hk
    rw [hf.1, hf.2, L.step, L.key] at this
    exact this
  · refine h.inv.step h.cl h.bs h.ds h.en h.chg0 ⟨rfl, rfl, rfl⟩ rfl (by show (d.kns.set p ver).length = 64; rw [List.length_set]; exact hD.kl) (Or.inl ⟨?_, rfl⟩) (fun a ha => Or.inl ha) (Or.inr ⟨rfl, rfl, ?_⟩)
    · unfold effD
      rw [h.en, hl0]
      show tkD _ = none
      unfold tkD
      rw [if_neg]
      show ¬ ((d.k = 2 ∨ d.k = 3) ∧ _)
      omega
    · refine ⟨⟨d.ts.length, rfl, by show d.ts.length < (d.ts ++ [x.now]).length; simp⟩, Or.inr ⟨by show d.k ≠ 4; omega, rfl, rfl, rfl, Or.inr ⟨rfl, ?_, ?_⟩⟩⟩
      · rw [at_end _ _ _ _ _ _ _ _ _ _ _ _ _ _ _ rfl, h.all]
        show (lmap (t.nd p) d.key).isSome = (mapO o d.key).isSome
        rw [k4 hl0 d.key (by rw [← L.key, ← hwk]; exact k3) (by rw [← L.key, ← hwk]; exact k2)]
      · rw [at_end _ _ _ _ _ _ _ _ _ _ _ _ _ _ _ rfl, h.all]
        show (lmap (t.nd p) d.key).getD 0 = (mapO o d.key).getD 0
        rw [k4 hl0 d.key (by rw [← L.key, ← hwk]; exact k3) (by rw [← L.key, ← hwk]; exact k2)]
structure RdPg (x : Wd) (t : Tre) (s : St) (p : Nat) (tx : ByteArray) (ver : Int) : Prop where
  sw : s.sw = ⟨#[]⟩
  pg : s.pg = (p : Int)
  p64 : p < 64
  inn : t.inn p
  U : x.U[p]? = some true
  T : x.T[p]? = some tx
  V : x.V[p]? = some ver
  un : Unp tx.data.toList (t.nd p)
  v0 : 0 ≤ ver
  v1 : ver ≤ x.now
theorem Mov.rdPg {wt : Bool} {gw : Nat} {x : Wd} {t : Tre} {S : Nat → St} {o : List Dn} {c i : Nat} {d : Dd} (h : Mov wt gw x t S o c i d) (hsw : (S i).sw = ⟨#[]⟩) : ∃ p tx ver, RdPg x t (S i) p tx ver := by
  obtain ⟨p, tx, ver, h1, h2, -, h3, h4, h5, h6, h7, h8, h9⟩ := h.page
  exact ⟨p, tx, ver, hsw, h1, h2, h3, h4, h5, h6, h7, h8, h9⟩
theorem Mov.at_ {wt : Bool} {gw : Nat} {x : Wd} {t : Tre} {S : Nat → St} {o : List Dn} {c i : Nat} {d : Dd} (h : Mov wt gw x t S o c i d) {p : Nat} {tx : ByteArray} {ver : Int} (R : RdPg x t (S i) p tx ver) : RdAt (S i) d.f (t.nd p) tx ver p x.T x.U x.V := h.rdAt R.sw R.pg R.p64 R.U R.T R.V R.un R.v0
theorem Mov.rd_miss {wt : Bool} {gw : Nat} {x : Wd} {t : Tre} {S : Nat → St} {o : List Dn} {c i : Nat} {d : Dd} (h : Mov wt gw x t S o c i d) {p : Nat} {tx : ByteArray} {ver : Int} (R : RdPg x t (S i) p tx ver) (hgo : ¬ rdGo (S i) (t.nd p)) (hk : (S i).kd = 3) (hno : lmap (t.nd p) d.key = none) :
    Moves (S i).kd d.f x.T x.U x.V d.kns d.rf x.T x.U x.V (d.kns.set p ver) d.rf (.fin 0 false 0 d.ts.length [] [] []) ∧
    ∀ tm kv vv cv rf', Inv wt gw { x with bs := x.bs.set c (-1), now := x.now + 1, rf := rf', ds := x.ds.set i (d.fin x.now (d.kns.set p ver) d.rf 0 false 0 d.ts.length [] [] [] tm kv vv cv) } t (upS S i (S i)) (o ++ [⟨x.now, d.k, d.key, d.v⟩]) := by
  have L := h.live
  have hD := h.inv.ds i d h.ds
  obtain ⟨k1, k2, k3, k4⟩ := h.leaf R.pg hgo
  have hl0 := L.ok.lv0 (by omega)
  have hwk := L.ok.wkey hl0 (by omega)
  have hf := fnd_lmap R.un.1 (S i).key
  have hkd : d.k = 3 := by rw [← L.kd]; exact hk
  have hmk : mapO o d.key = none := by rw [← k4 hl0 d.key (by rw [← L.key, ← hwk]; exact k3) (by rw [← L.key, ← hwk]; exact k2)]; exact hno
  have hmq : mapO (o ++ [⟨x.now, d.k, d.key, d.v⟩]) = mapO o := by
    rw [mapO_snoc]
    funext q
    unfold upd
    split
    · rename_i e
      rw [e, hkd, hmk]; rfl
    · rfl
  have hT : Took (S i) (S i) d (d.fin x.now (d.kns.set p ver) d.rf 0 false 0 d.ts.length [] [] [] (.int .i64 0) (.int .i64 0) (.int .i64 0) (.int .i64 0)) x.now o (o ++ [⟨x.now, d.k, d.key, d.v⟩]) := by
    refine Or.inr ⟨by unfold effD; rw [h.en, hl0]; rfl, _, ?_, rfl, rfl, Or.inr hkd⟩
    show tkD _ = _
    unfold tkD
    rw [if_pos ⟨Or.inr hkd, rfl⟩]
    show some (⟨(d.ts ++ [x.now])[((d.ts.length : Nat) : Int).toNat]?.getD 0, d.k, d.key, d.v⟩ : Dn) = _
    rw [Int.toNat_natCast, at_now]
  refine ⟨?_, fun tm kv vv cv rf' => ?_⟩
  · have := mv_miss (h.at_ R) d.kns d.rf hgo hk (by rw [hf.1, L.key, hno]; rfl)
    rw [hf.2, L.step, L.key, hno] at this
    exact this
  · have C := h.chg0
    refine h.inv.step h.cl h.bs h.ds h.en ⟨C.ok, C.gr, C.tl, C.ul, C.vl, C.say, C.us, C.vb, by rw [hmq]; exact C.lf, C.uu, C.q, C.new⟩ ⟨rfl, rfl, rfl⟩ rfl (by show (d.kns.set p ver).length = 64; rw [List.length_set]; exact hD.kl) hT (fun a ha => Or.inl ha) (Or.inr ⟨rfl, rfl, ?_⟩)
    refine ⟨⟨d.ts.length, rfl, by show d.ts.length < (d.ts ++ [x.now]).length; simp⟩, Or.inr ⟨by show d.k ≠ 4; omega, rfl, rfl, rfl, Or.inr ⟨rfl, ?_, ?_⟩⟩⟩
    · rw [at_end _ _ _ _ _ _ _ _ _ _ _ _ _ _ _ rfl, hT.aheadN h.inv.ot]
      show false = (mapO o d.key).isSome
      rw [hmk]; rfl
    · rw [at_end _ _ _ _ _ _ _ _ _ _ _ _ _ _ _ rfl, hT.aheadN h.inv.ot]
      show 0 = (mapO o d.key).getD 0
      rw [hmk]; rfl
theorem nodup_le (n : Nat) : ∀ l : List Nat, l.Nodup → (∀ a ∈ l, a < n) → l.length ≤ n := by
  induction n with
  | zero =>
    intro l _ h
    cases l with
    | nil => exact Nat.le_refl _
    | cons a r => have := h a (by simp); omega
  | succ n ih =>
    intro l hn h
    have h1 := ih (l.erase n) (hn.erase n) fun a ha => by
      have h2 := (hn.mem_erase_iff).1 ha
      have := h a h2.2
      have := h2.1
      omega
    rw [List.length_erase] at h1
    split at h1 <;> omega
theorem lows_le {t : Tre} (ht : t.Ok) {bel : List Int} (hp : bel.Pairwise (· < ·)) (h : ∀ b ∈ bel, ∃ q, t.inn q ∧ q ≠ 0 ∧ (t.nd q).lv = 0 ∧ t.low q = b) : bel.length ≤ 63 := by
  have hf : ∃ f : Int → Nat, ∀ b ∈ bel, t.inn (f b) ∧ f b ≠ 0 ∧ t.low (f b) = b := by
    classical
    refine ⟨fun b => if hb : b ∈ bel then (h b hb).choose else 0, fun b hb => ?_⟩
    have := (h b hb).choose_spec
    simp only [hb, dif_pos]
    exact ⟨this.1, this.2.1, this.2.2.2⟩
  obtain ⟨f, hf⟩ := hf
  have h1 := nodup_le 63 (bel.map fun b => f b - 1) ?_ ?_
  · rw [List.length_map] at h1; exact h1
  · refine List.pairwise_map.2 (List.Pairwise.imp_of_mem (fun ha hb hab e => ?_) hp)
    rename_i a b
    have h2 := hf a ha
    have h3 := hf b hb
    have h4 : f a = f b := by have := h2.2.1; have := h3.2.1; omega
    rw [h4, h3.2.2] at h2
    omega
  · intro a ha
    obtain ⟨b, hb, rfl⟩ := List.mem_map.1 ha
    have h2 := hf b hb
    have := ht.lt _ h2.1
    have := h2.2.1
    omega
theorem Scn.belP {o : List Dn} {ts : List Int} {key val : Int} {keys vals bel pts : List Int} (h : Scn o ts key val keys vals bel pts) : bel.Pairwise (· < ·) := by
  rw [List.pairwise_iff_getElem]
  intro a b ha hb hab
  have hup : ∀ d j, j + d ≤ bel.length → fromV bel key j ≤ fromV bel key (j + d) := fun d => by
    induction d with
    | zero => intro j _; exact Int.le_refl _
    | succ d ih => intro j hj; have := ih j (by omega); have := (h.bp (j + d) (by omega)).1; rw [← Nat.add_assoc]; omega
  have h1 := hup (b - (a + 1)) (a + 1) (by omega)
  rw [show a + 1 + (b - (a + 1)) = b by omega] at h1
  have h2 := (h.bp b hb).1
  have e1 : fromV bel key (a + 1) = bel[a] := by show bel[a]?.getD 0 = _; rw [List.getElem?_eq_getElem ha]; rfl
  have e2 : fromV bel key (b + 1) = bel[b] := by show bel[b]?.getD 0 = _; rw [List.getElem?_eq_getElem hb]; rfl
  omega
theorem scO_end {s : St} {n : Nd} (h : scEnd s n = true) : (scO s n).res = .fin 0 (decide (0 < (scK s n).length)) (scK s n).length s.step (scK s n) (scV s n) ((s.bel ++ [scB s n]).zip (s.pts ++ [s.step])) := by
  unfold scO; rw [if_pos h]; rfl
theorem scO_on {s : St} {n : Nd} (h : scEnd s n = false) : (scO s n).res = .on { scS s n with pg := n.lk, step := s.step + 1 } := by
  unfold scO; rw [if_neg (by rw [h]; decide)]; rfl
structure ScW (wt : Bool) (gw : Nat) (x : Wd) (t : Tre) (S : Nat → St) (o : List Dn) (c i : Nat) (d : Dd) (p : Nat) (tx : ByteArray) (ver : Int) : Prop where
  mv : Mov wt gw x t S o c i d
  R : RdPg x t (S i) p tx ver
  go : ¬ rdGo (S i) (t.nd p)
  k : (S i).kd = 4
theorem ScW.facts {wt : Bool} {gw : Nat} {x : Wd} {t : Tre} {S : Nat → St} {o : List Dn} {c i : Nat} {d : Dd} {p : Nat} {tx : ByteArray} {ver : Int} (h : ScW wt gw x t S o c i d p tx ver) : (S i).lv = 0 ∧ d.k = 4 ∧ (S i).val = d.v ∧ (S i).bel.length ≤ 63 ∧ (∀ q ∈ (S i).keys, 0 ≤ q ∧ q ≤ 10000) ∧ (S i).sp = [] ∧ (S i).sv = [] ∧
    Scn o (d.ts ++ [x.now]) d.key d.v (scK (S i) (t.nd p)) (scV (S i) (t.nd p)) ((S i).bel ++ [scB (S i) (t.nd p)]) ((S i).pts ++ [(S i).step]) := by
  have L := h.mv.live
  have hk := h.k
  have hl0 := L.ok.lv0 (by omega)
  have hkd : d.k = 4 := by rw [← L.kd]; exact hk
  have hval : (S i).val = d.v := by rw [L.val]; unfold valS; rw [if_neg (by omega)]
  obtain ⟨k1, k2, k3, k4⟩ := h.mv.leaf h.R.pg h.go
  obtain ⟨s1, s2⟩ := L.sc hk
  have hw := L.ok.want
  have hsp : (S i).sp = [] := by rcases L.ok.spk with h1 | h1; omega; exact h1
  have M := s1.more h.R.un.1 hl0 L.ok.kl12 (hw.2.2 hk) k2 k3 (k4 hl0) L.step (fun _ _ => rfl) h.mv.all
  rw [L.key, hval] at M
  refine ⟨hl0, hkd, hval, lows_le h.mv.inv.tok s1.belP s2, fun q hq => ?_, hsp, ?_, M⟩
  · have h1 := s1.inn q hq
    rw [← want_from hl0] at h1
    have := L.ok.rng
    omega
  · have := L.ok.spl; rw [hsp] at this; exact List.eq_nil_of_length_eq_zero this.symm
theorem ScW.rd_end {wt : Bool} {gw : Nat} {x : Wd} {t : Tre} {S : Nat → St} {o : List Dn} {c i : Nat} {d : Dd} {p : Nat} {tx : ByteArray} {ver : Int} (h : ScW wt gw x t S o c i d p tx ver) (he : scEnd (S i) (t.nd p) = true) :
    Moves (S i).kd d.f x.T x.U x.V d.kns d.rf x.T x.U x.V (d.kns.set p ver) d.rf (.fin 0 (decide (0 < (scK (S i) (t.nd p)).length)) (scK (S i) (t.nd p)).length d.ts.length (scK (S i) (t.nd p)) (scV (S i) (t.nd p)) (((S i).bel ++ [scB (S i) (t.nd p)]).zip ((S i).pts ++ [(S i).step]))) ∧
    ∀ tm kv vv cv rf', Inv wt gw { x with bs := x.bs.set c (-1), now := x.now + 1, rf := rf', ds := x.ds.set i (d.fin x.now (d.kns.set p ver) d.rf 0 (decide (0 < (scK (S i) (t.nd p)).length)) (scK (S i) (t.nd p)).length d.ts.length (scK (S i) (t.nd p)) (scV (S i) (t.nd p)) (((S i).bel ++ [scB (S i) (t.nd p)]).zip ((S i).pts ++ [(S i).step])) tm kv vv cv) } t (upS S i (S i)) o := by
  have L := h.mv.live
  have hD := h.mv.inv.ds i d h.mv.ds
  obtain ⟨f1, f2, f3, f4, f5, f6, f7, f8⟩ := h.facts
  have hk := h.k
  refine ⟨?_, fun tm kv vv cv rf' => ?_⟩
  · have := mv_scan (h.mv.at_ h.R) d.kns d.rf h.go h.k f4 f5 (fun e => by rw [he] at e; cases e)
    rw [scO_end he] at this
    have e : ∀ a b c' g, Res.fin 0 a b (S i).step c' g (((S i).bel ++ [scB (S i) (t.nd p)]).zip ((S i).pts ++ [(S i).step])) = Res.fin 0 a b d.ts.length c' g (((S i).bel ++ [scB (S i) (t.nd p)]).zip ((S i).pts ++ [(S i).step])) := fun a b c' g => by
      show Res.fin 0 a b (S i).step c' g _ = Res.fin 0 a b ((d.ts.length : Nat) : Int) c' g _
      rw [← L.step]
    rw [e] at this
    exact this
  · refine h.mv.inv.step h.mv.cl h.mv.bs h.mv.ds h.mv.en h.mv.chg0 ⟨rfl, rfl, rfl⟩ rfl (by show (d.kns.set p ver).length = 64; rw [List.length_set]; exact hD.kl) (Or.inl ⟨?_, rfl⟩) (fun a ha => Or.inl ha) (Or.inr ⟨rfl, rfl, ?_⟩)
    · unfold effD
      rw [h.mv.en, f1]
      show tkD _ = none
      unfold tkD
      rw [if_neg]
      show ¬ ((d.k = 2 ∨ d.k = 3) ∧ _)
      omega
    · refine ⟨⟨d.ts.length, rfl, by show d.ts.length < (d.ts ++ [x.now]).length; simp⟩, Or.inl ⟨f2, (S i).bel ++ [scB (S i) (t.nd p)], (S i).pts ++ [(S i).step], rfl, rfl, rfl, rfl, f8, by simp, by rw [List.length_append, List.length_singleton]; omega, ?_, adK_len _ _ _ _ _ (by have := L.ok.kl12; omega), ?_⟩⟩
      · show ((S i).pts ++ [(S i).step]).getLast? = some ((d.ts.length : Nat) : Int)
        rw [List.getLast?_append, ← L.step]; rfl
      · show ((scK (S i) (t.nd p)).length = 12 ∧ fromV ((S i).bel ++ [scB (S i) (t.nd p)]) d.key ((S i).bel ++ [scB (S i) (t.nd p)]).length = (scK (S i) (t.nd p)).getLast?.getD 0 + 1) ∨ ((scK (S i) (t.nd p)).length < 12 ∧ fromV ((S i).bel ++ [scB (S i) (t.nd p)]) d.key ((S i).bel ++ [scB (S i) (t.nd p)]).length = d.v + 1)
        rw [List.length_append, List.length_singleton, from_last]
        have h12 : (scK (S i) (t.nd p)).length ≤ 12 := adK_len _ _ _ _ _ (by have := L.ok.kl12; omega)
        unfold scEnd at he
        rw [Bool.or_eq_true, decide_eq_true_eq, decide_eq_true_eq] at he
        by_cases hf : 12 ≤ (scK (S i) (t.nd p)).length
        · refine Or.inl ⟨by omega, ?_⟩
          unfold scB; rw [if_pos hf]
        · refine Or.inr ⟨by omega, ?_⟩
          rcases he with he | he
          · exact absurd he hf
          · rw [he, f3]
theorem ScW.rd_more {wt : Bool} {gw : Nat} {x : Wd} {t : Tre} {S : Nat → St} {o : List Dn} {c i : Nat} {d : Dd} {p : Nat} {tx : ByteArray} {ver : Int} (h : ScW wt gw x t S o c i d p tx ver) {m : Nat → Nat} (hm : RkOk t m) (he : scEnd (S i) (t.nd p) = false) :
    Moves (S i).kd d.f x.T x.U x.V d.kns d.rf x.T x.U x.V (d.kns.set p ver) d.rf (.on { scS (S i) (t.nd p) with pg := (t.nd p).lk, step := (S i).step + 1 }) ∧
    (∀ tm f rf', f.data.toList = frT { scS (S i) (t.nd p) with pg := (t.nd p).lk, step := (S i).step + 1 } → Inv wt gw { x with now := x.now + 1, rf := rf', ds := x.ds.set i (d.go x.now tm f (d.kns.set p ver) d.rf) } t (upS S i { scS (S i) (t.nd p) with pg := (t.nd p).lk, step := (S i).step + 1 }) o) ∧
    rnk m x.V { scS (S i) (t.nd p) with pg := (t.nd p).lk, step := (S i).step + 1 } < rnk m x.V (S i) := by
  have L := h.mv.live
  have hst := h.mv.step
  have hD := h.mv.inv.ds i d h.mv.ds
  obtain ⟨f1, f2, f3, f4, f5, f6, f7, f8⟩ := h.facts
  have hk := h.k
  obtain ⟨k1, k2, k3, k4⟩ := h.mv.leaf h.R.pg h.go
  have hw := L.ok.want
  have hop := L.ok.op
  simp only [opR, Bool.and_eq_true, Bool.or_eq_true, decide_eq_true_eq] at hop
  have hpn : (S i).pg.toNat = p := by have := h.R.pg; omega
  have hwy := L.way
  rw [hpn] at hwy
  obtain ⟨z1, z2, z3, z4, z5⟩ := sc_zip h.R.un.1 L.ok.kl L.ok.kl12 (hw.2.2 hk) k2
  unfold scEnd at he
  rw [Bool.or_eq_false_iff, decide_eq_false_iff_not, decide_eq_false_iff_not] at he
  have hB : scB (S i) (t.nd p) = (t.nd p).hi := by
    have h1 : scB (S i) (t.nd p) = if (S i).val + 1 < (t.nd p).hi then (S i).val + 1 else (t.nd p).hi := by unfold scB; rw [if_neg he.1]
    rw [h1]
    split
    · rename_i h2; rw [if_pos h2] at h1; exact absurd h1 he.2
    · rfl
  have hhi : (t.nd p).hi ≤ 9999 := by have := he.2; omega
  obtain ⟨q, q1, q2, q3, q4⟩ := h.mv.inv.tok.lnk p h.R.inn (by omega)
  have q64 := h.mv.inv.tok.lt q q2
  have hq0 : q ≠ 0 := fun e => by subst e; rw [h.mv.inv.tok.l0] at q3; omega
  have hz : scEnd (S i) (t.nd p) = false := by unfold scEnd; rw [Bool.or_eq_false_iff, decide_eq_false_iff_not, decide_eq_false_iff_not]; exact he
  have hbelK : keysOk ((S i).val + 1) ((S i).key + 1) ((S i).bel ++ [scB (S i) (t.nd p)]) = true := by
    refine keysOk_mk _ _ _ f8.belP fun b hb => ?_
    rcases List.mem_append.1 hb with hb | hb
    · exact keysOk_all _ _ _ L.ok.bel b hb
    · rw [List.mem_singleton] at hb
      have hge : (S i).key ≤ wantV (S i) := by
        rw [want_from f1]
        cases hbl : (S i).bel.length with
        | zero => exact Int.le_refl _
        | succ j =>
          have hj : j < (S i).bel.length := by omega
          show (S i).key ≤ (S i).bel[j]?.getD 0
          rw [List.getElem?_eq_getElem hj]
          have := keysOk_all _ _ _ L.ok.bel _ (List.getElem_mem hj)
          show (S i).key ≤ (S i).bel[j]
          omega
      have := he.2
      omega
  have hfr : ∀ {a : Int}, 0 ≤ a ∧ a ≤ 10000 → Fr a := fun {a} h => ⟨h.1, by omega⟩
  have hent : ∀ e ∈ ent (t.nd p), (0 ≤ e.1 ∧ e.1 ≤ 10000) ∧ (0 ≤ e.2 ∧ e.2 ≤ 10000) := fun e he2 => by
    have h1 := ent_key he2
    have h2 := right_kb _ h.R.un.1 e.1 h1.1
    have h3 := (right_bd _ h.R.un.1).2.2.2.2.2.2.2 e.2 h1.2
    rw [show (t.nd p).lv = 0 by omega] at h3
    have h4 : (10 : Nat) ^ vw 0 = 10000 := rfl
    rw [h4] at h3
    omega
  have hmemZ : ∀ e ∈ (scK (S i) (t.nd p)).zip (scV (S i) (t.nd p)), Fr e.1 ∧ Fr e.2 := fun e he2 => by
    rw [z2] at he2
    rcases List.mem_append.1 he2 with h1 | h1
    · exact ⟨L.ok.keys _ (List.of_mem_zip h1).1, L.ok.vals _ (List.of_mem_zip h1).2⟩
    · have := hent e (List.mem_filter.1 h1).1
      exact ⟨hfr this.1, hfr this.2⟩
  have hok : StOk { scS (S i) (t.nd p) with pg := (t.nd p).lk, step := (S i).step + 1 } := by
    have h0 := L.ok
    refine ⟨h0.op, h0.val, by have := h0.step; unfold Fr at this ⊢; simp only; omega, by show 0 ≤ (t.nd p).lk ∧ (t.nd p).lk ≤ 63; omega, fun a ha => ?_, fun a ha => ?_, fun a ha => ?_, z1, by have := he.1; show (scK (S i) (t.nd p)).length < 12; omega, by show ((S i).bel ++ [_]).length = ((S i).pts ++ [_]).length; rw [List.length_append, List.length_append, h0.bl]; rfl, by show ((S i).bel ++ [_]).length ≤ 64; rw [List.length_append, List.length_singleton]; omega, hbelK, Or.inl hk, h0.ver, h0.laid, h0.lv, h0.low, h0.ch, h0.pt, h0.swL, h0.sw, h0.sp, h0.sv, h0.spk, h0.spl, h0.sp2, h0.laidL, ?_⟩
    · replace ha : a ∈ scK (S i) (t.nd p) := ha
      obtain ⟨j, hj, rfl⟩ := List.mem_iff_getElem.1 ha
      exact (hmemZ ((scK (S i) (t.nd p))[j], (scV (S i) (t.nd p))[j]'(by rw [← z1]; exact hj)) (List.mem_iff_getElem.2 ⟨j, by rw [List.length_zip]; omega, by simp⟩)).1
    · obtain ⟨b, hb⟩ := zip_val z1 ha
      exact (hmemZ _ hb).2
    · rcases List.mem_append.1 ha with h1 | h1
      · exact h0.pts a h1
      · rw [List.mem_singleton] at h1; rw [h1]; exact h0.step
    · rcases h0.ent with h1 | h1
      · exact Or.inl h1
      · omega
  refine ⟨?_, fun tm f rf' hf => ?_, ?_⟩
  · have := mv_scan (h.mv.at_ h.R) d.kns d.rf h.go h.k f4 f5 (fun _ => ⟨by omega, hok⟩)
    rw [scO_on hz] at this
    exact this
  · refine h.mv.inv.step h.mv.cl h.mv.bs h.mv.ds h.mv.en h.mv.chg0 ⟨rfl, rfl, rfl⟩ rfl (by show (d.kns.set p ver).length = 64; rw [List.length_set]; exact hD.kl) (eff_live h.mv.en h.mv.en rfl rfl rfl ⟨rfl, rfl, rfl⟩ fun h0 => (L.ent h0).pt) (fun a ha => Or.inl ha) (Or.inl ⟨h.mv.en, rfl, ?_⟩)
    refine ⟨L.live, hok, hf, L.kd, L.key, L.val, ?_, L.spr.kns h.R.inn ver rfl rfl, fun h0 => ?_, ?_, fun e => absurd h.R.sw e, fun _ => ⟨?_, fun b hb => ?_⟩⟩
    · show (S i).step + 1 = ((d.ts ++ [x.now]).length : Int)
      rw [List.length_append, List.length_singleton, L.step]; rfl
    · have h1 : 0 < (S i).lv := h0
      omega
    · show Way t (t.nd p).lk.toNat (S i).lv (wantV { scS (S i) (t.nd p) with pg := (t.nd p).lk, step := (S i).step + 1 })
      have hwv : wantV { scS (S i) (t.nd p) with pg := (t.nd p).lk, step := (S i).step + 1 } = (t.nd p).hi := by
        show (if 0 < (S i).lv then (S i).low else ((S i).bel ++ [scB (S i) (t.nd p)]).getLast?.getD (S i).key) = _
        rw [if_neg (by omega), List.getLast?_append, hB]; rfl
      rw [hwv, q1, Int.toNat_natCast]
      exact ⟨q2, by omega, by omega⟩
    · show Scn o (d.ts ++ [x.now]) (S i).key (S i).val (scK (S i) (t.nd p)) (scV (S i) (t.nd p)) ((S i).bel ++ [scB (S i) (t.nd p)]) ((S i).pts ++ [(S i).step])
      rw [L.key, f3]; exact f8
    · replace hb : b ∈ (S i).bel ++ [scB (S i) (t.nd p)] := hb
      rcases List.mem_append.1 hb with h1 | h1
      · exact (L.sc hk).2 b h1
      · rw [List.mem_singleton] at h1
        exact ⟨q, q2, hq0, by omega, by omega⟩
  · rw [rnk_rd h.R.sw, rnk_rd (show ({ scS (S i) (t.nd p) with pg := (t.nd p).lk, step := (S i).step + 1 } : St).sw = _ from h.R.sw)]
    show m (t.nd p).lk.toNat + 4 + 70 * (9 - (S i).lv).toNat < _
    rw [q1, Int.toNat_natCast, hpn]
    have := hm.lt p q q2 (Or.inr ⟨q4, by rw [q3]; exact (h.mv.inv.tok.lo p h.R.inn).2⟩)
    omega
end Go.Proofs.YtajobgmnmbnhiaaGreatDoor.Sap
