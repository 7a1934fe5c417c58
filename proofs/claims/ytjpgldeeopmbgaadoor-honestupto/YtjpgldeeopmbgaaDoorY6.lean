/- WHAT IS PROVED HERE: what holds of the world at any time of a script, as long as page 0 alone is there, a leaf: what it has is the map that the operations which have ended make in the order of their Points; and that each access keeps it (no program's function is walked). Conditions: none but those named at each theorem. -/
import Derived.Test.YtjpgldeeopmbgaaDoorY5
namespace Go.Proofs.YtjpgldeeopmbgaaDoor.Sap
open Go.RowKit

/-- What took effect of the operations that have ended. -/
def tkE (ds : List Dd) : List Dn := ds.filterMap fun d => if d.en then tkD d else none
theorem tkE_split (ds : List Dd) (i : Nat) (d' : Dd) (hi : i < ds.length) : tkE (ds.set i d') = tkE (ds.take i) ++ ((if d'.en then tkD d' else none).toList ++ tkE (ds.drop (i + 1))) := by
  unfold tkE
  rw [set_split ds i d' hi, List.filterMap_append, List.filterMap_cons]
  cases h : (if d'.en then tkD d' else none) <;> rfl
theorem tkE_same (ds : List Dd) (i : Nat) (d : Dd) (hd : ds[i]? = some d) (he : d.en = false) : tkE ds = tkE (ds.take i) ++ tkE (ds.drop (i + 1)) := by
  have hi := (List.getElem?_eq_some_iff.1 hd).1
  have h1 := tkE_split ds i d hi
  rw [show ds.set i d = ds by rw [← (List.getElem?_eq_some_iff.1 hd).2, List.set_getElem_self]] at h1
  rw [h1, he]; rfl
theorem tkE_go (ds : List Dd) (i : Nat) (d d' : Dd) (hd : ds[i]? = some d) (he : d.en = false) (he' : d'.en = false) : tkE (ds.set i d') = tkE ds := by
  rw [tkE_split ds i d' (List.getElem?_eq_some_iff.1 hd).1, tkE_same ds i d hd he, he']; rfl
theorem tkE_fin (ds : List Dd) (i : Nat) (d d' : Dd) (hd : ds[i]? = some d) (he : d.en = false) (he' : d'.en = true) : (tkE ds ++ (tkD d').toList).Perm (tkE (ds.set i d')) := by
  rw [tkE_split ds i d' (List.getElem?_eq_some_iff.1 hd).1, tkE_same ds i d hd he, he', List.append_assoc]
  exact List.Perm.append_left _ List.perm_append_comm
theorem tkE_snoc (ds : List Dd) (d : Dd) (he : d.en = false) : tkE (ds ++ [d]) = tkE ds := by
  unfold tkE
  rw [List.filterMap_append]
  simp [he]
theorem tkE_all (ds : List Dd) (h : ∀ d ∈ ds, d.en = true) : tkE ds = tkL ds := by
  unfold tkE tkL
  induction ds with
  | nil => rfl
  | cons x r ih =>
    rw [List.filterMap_cons, List.filterMap_cons, h x (by simp), if_pos rfl, ih fun d hd => h d (by simp [hd])]

/-- An operation under way: it is to read the leaf, or to swap it for what it makes of it. -/
structure Live (n : Nd) (ver : Int) (d : Dd) : Prop where
  live : d.live
  st : (d.f.data.toList = frT (rdS d.k d.key d.v d.ts.length) ∧ (d.k = 1 ∨ d.k = 4 → d.ts = [])) ∨
    ((d.k = 2 ∨ d.k = 3) ∧ ∃ (T : ByteArray) (v0 : Int) (fnd : Bool) (va : Int) (n' : Nd), d.f.data.toList = frT (wrS d.k d.key d.v d.ts.length T v0 fnd va) ∧ d.kns[0]? = some v0 ∧ 0 ≤ v0 ∧ v0 ≤ ver ∧ Unp T.data.toList n' ∧ n'.lv = 0 ∧ (0 ≤ va ∧ va ≤ 9999) ∧ (fnd = false → va = 0) ∧
      (v0 = ver → n' = chN n d.k d.key (valS d.k d.v) ∧ fnd = (lmap n d.key).isSome ∧ va = (lmap n d.key).getD 0))
/-- When it took effect. -/
def Dd.at (d : Dd) : Int := d.ts[d.pt.toNat]?.getD 0
/-- A Scan's answer. -/
structure Scanned (m : Int → Option Int) (d : Dd) (n : Nd) : Prop where
  r : rightB n = true
  lv : n.lv = 0
  hi : n.hi = 10000
  lm : ∀ q, lmap n q = m q
  ks : d.ks = scK (rdS d.k d.key d.v 0) n
  vs : d.vs = scV (rdS d.k d.key d.v 0) n
  er : d.er = 0
  fd : d.fd = decide (0 < (scK (rdS d.k d.key d.v 0) n).length)
  va : d.va = (scK (rdS d.k d.key d.v 0) n).length
  pt : d.pt = 0
  cs : d.cs = [(d.v + 1, 0)]
/-- An operation that has ended. -/
structure Ended (o : List Dn) (now : Int) (d : Dd) : Prop where
  p : ∃ p : Nat, d.pt = (p : Int) ∧ p < d.ts.length
  at_lt : d.at < now
  an : (d.k = 4 ∧ ∃ n, Scanned (mapO (ahead o d.at)) d n) ∨
    (d.k ≠ 4 ∧ d.ks = [] ∧ d.vs = [] ∧ d.cs = [] ∧ ((d.er = 4 ∧ d.k = 2 ∧ d.fd = false ∧ d.va = 0) ∨ (d.er = 0 ∧ d.fd = (mapO (ahead o d.at) d.key).isSome ∧ d.va = (mapO (ahead o d.at) d.key).getD 0)))
theorem Ended.mono {o o' : List Dn} {now now' : Int} {d : Dd} (h : Ended o now d) (ha : ahead o' d.at = ahead o d.at) (hn : now ≤ now') : Ended o' now' d :=
  ⟨h.p, by have := h.at_lt; omega, by rw [ha]; exact h.an⟩

structure DdOk (n : Nd) (ver : Int) (o : List Dn) (now : Int) (d : Dd) : Prop where
  op : opR d.k d.key d.v = true
  nt : (d.ts.length : Int) ≤ now
  lt : ∀ τ ∈ d.ts, τ < now
  kl : d.kns.length = 64
  lv : d.en = false → Live n ver d
  ed : d.en = true → Ended o now d

/-- What holds at any time. -/
structure Inv (gw : Nat) (x : Wd) (n : Nd) (t : ByteArray) (ver : Int) (o : List Dn) : Prop where
  pg : x.gw = gw
  kp : x.kp = false
  wt : x.wt = false
  ov : x.ov = .slice none 0 0
  T : x.T[0]? = some t
  un : Unp t.data.toList n
  lv : n.lv = 0
  hi : n.hi = 10000
  U : x.U[0]? = some true
  V : x.V[0]? = some ver
  vb : 0 ≤ ver ∧ ver ≤ x.now
  puts : 0 ≤ x.puts ∧ x.puts ≤ x.ds.length
  bsl : x.bs.length = 64
  bs : ∀ c, c < 64 → x.bs[c]? = some (-1) ∨ ∃ (i : Nat) (d : Dd), x.bs[c]? = some (i : Int) ∧ x.ds[i]? = some d ∧ d.en = false
  inj : ∀ (c c' i : Nat), x.bs[c]? = some (i : Int) → x.bs[c']? = some (i : Int) → c = c'
  ds : ∀ (i : Nat) (d : Dd), x.ds[i]? = some d → DdOk n ver o x.now d
  own : ∀ (i : Nat) (d : Dd), x.ds[i]? = some d → d.en = false → ∃ c, c < 64 ∧ x.bs[c]? = some (i : Int)
  os : o.Pairwise fun a b => a.t < b.t
  op : o.Perm (tkE x.ds)
  ot : ∀ e ∈ o, e.t < x.now
  om : ∀ q, mapO o q = lmap n q
  ok : ∀ e ∈ o, e.k = 2 ∨ e.k = 3

/-- An operation goes on. -/
theorem Inv.go {gw : Nat} {x : Wd} {n : Nd} {t : ByteArray} {ver : Int} {o : List Dn} (h : Inv gw x n t ver o) {i : Nat} {d : Dd} (hd : x.ds[i]? = some d) (he : d.en = false) (tm : Value) (f : ByteArray) (kns : List Int) (hk : kns.length = 64)
    (hL : Live n ver { d with tm := tm, f := f, ts := d.ts ++ [x.now], kns := kns, rf := d.rf }) : Inv gw (x.go i d tm f kns) n t ver o := by
  have hi := (List.getElem?_eq_some_iff.1 hd).1
  have hD := h.ds i d hd
  have hvb := h.vb
  refine ⟨h.pg, h.kp, h.wt, h.ov, h.T, h.un, h.lv, h.hi, h.U, h.V, ⟨hvb.1, ?_⟩, ?_, h.bsl, fun c hc => ?_, h.inj, fun j e hj => ?_, fun j e hj hen => ?_, h.os, ?_, fun e he2 => ?_, h.om, h.ok⟩
  · show ver ≤ x.now + 1; omega
  · show 0 ≤ x.puts ∧ x.puts ≤ ((x.ds.set i _).length : Int); rw [List.length_set]; exact h.puts
  · rcases h.bs c hc with h1 | ⟨j, e, h1, h2, h3⟩
    · exact Or.inl h1
    · by_cases hji : i = j
      · subst hji
        exact Or.inr ⟨i, _, h1, List.getElem?_set_self hi, he⟩
      · exact Or.inr ⟨j, e, h1, (List.getElem?_set_ne hji).trans h2, h3⟩
  · show DdOk n ver o (x.now + 1) e
    replace hj : (x.ds.set i _)[j]? = some e := hj
    by_cases hji : i = j
    · subst hji
      rw [List.getElem?_set_self hi] at hj
      cases hj
      refine ⟨hD.op, ?_, fun τ hτ => ?_, hk, fun _ => hL, fun e1 => ?_⟩
      · show ((d.ts ++ [x.now]).length : Int) ≤ x.now + 1
        rw [List.length_append, List.length_singleton]; have := hD.nt; omega
      · rcases List.mem_append.1 hτ with h1 | h1
        · have := hD.lt τ h1; omega
        · rw [List.mem_singleton] at h1; omega
      · have e2 : d.en = true := e1
        rw [he] at e2; cases e2
    · rw [List.getElem?_set_ne hji] at hj
      have hE := h.ds j e hj
      exact ⟨hE.op, by have := hE.nt; omega, fun τ hτ => by have := hE.lt τ hτ; omega, hE.kl, hE.lv, fun h1 => (hE.ed h1).mono rfl (by omega)⟩
  · replace hj : (x.ds.set i _)[j]? = some e := hj
    by_cases hji : i = j
    · subst hji; exact h.own i d hd he
    · rw [List.getElem?_set_ne hji] at hj
      exact h.own j e hj hen
  · show o.Perm (tkE (x.ds.set i _))
    have h9 := tkE_go x.ds i d { d with tm := tm, f := f, ts := d.ts ++ [x.now], kns := kns, rf := d.rf } hd he he
    rw [h9]; exact h.op
  · show e.t < x.now + 1
    have := h.ot e he2; omega

/-- An operation ends. -/
theorem Inv.fin {gw : Nat} {x : Wd} {n n' : Nd} {t t' : ByteArray} {ver ver' : Int} {o o' : List Dn} (h : Inv gw x n t ver o) {c i : Nat} {d : Dd} (hc : c < 64) (hb : x.bs[c]? = some (i : Int)) (hd : x.ds[i]? = some d) (he : d.en = false) (T : List ByteArray) (V kns : List Int) (er : Int) (fd : Bool) (va pt : Int) (ks vs : List Int) (cs : List (Int × Int)) (tm kv vv cv : Value) (hk : kns.length = 64)
    (hT : T[0]? = some t') (hun : Unp t'.data.toList n') (hlv : n'.lv = 0) (hhi : n'.hi = 10000) (hV : V[0]? = some ver') (hver : ver' = ver ∨ ver' = ver + 1)
    (hLv : ∀ e, Live n ver e → Live n' ver' e) (ho : o' = o ++ (tkD { d with tm := tm, f := ⟨#[]⟩, ts := d.ts ++ [x.now], kns := kns, rf := d.rf, en := true, er := er, fd := fd, va := va, pt := pt, kv := kv, vv := vv, cv := cv, ks := ks, vs := vs, cs := cs }).toList)
    (hot : ∀ e ∈ (tkD { d with tm := tm, f := ⟨#[]⟩, ts := d.ts ++ [x.now], kns := kns, rf := d.rf, en := true, er := er, fd := fd, va := va, pt := pt, kv := kv, vv := vv, cv := cv, ks := ks, vs := vs, cs := cs }).toList, e.t = x.now)
    (hE : Ended o' (x.now + 1) { d with tm := tm, f := ⟨#[]⟩, ts := d.ts ++ [x.now], kns := kns, rf := d.rf, en := true, er := er, fd := fd, va := va, pt := pt, kv := kv, vv := vv, cv := cv, ks := ks, vs := vs, cs := cs }) (hom : ∀ q, mapO o' q = lmap n' q) :
    Inv gw (x.fin c i d T V kns er fd va pt ks vs cs tm kv vv cv) n' t' ver' o' := by
  have hi := (List.getElem?_eq_some_iff.1 hd).1
  have hD := h.ds i d hd
  have hvb := h.vb
  have hcb : c < x.bs.length := by rw [h.bsl]; exact hc
  have hah : ∀ τ, τ < x.now → ahead o' τ = ahead o τ := fun τ hτ => by
    rw [ho]
    cases hk2 : (tkD { d with tm := tm, f := ⟨#[]⟩, ts := d.ts ++ [x.now], kns := kns, rf := d.rf, en := true, er := er, fd := fd, va := va, pt := pt, kv := kv, vv := vv, cv := cv, ks := ks, vs := vs, cs := cs }) with
    | none => simp
    | some e =>
      have := hot e (by rw [hk2]; simp)
      exact ahead_snoc o e τ (by omega)
  refine ⟨h.pg, h.kp, h.wt, h.ov, hT, hun, hlv, hhi, h.U, hV, ⟨by omega, ?_⟩, ?_, ?_, fun k hk2 => ?_, fun k k' j h1 h2 => ?_, fun j e hj => ?_, fun j e hj hen => ?_, ?_, ?_, fun e he2 => ?_, hom, fun e he2 => ?_⟩
  · show ver' ≤ x.now + 1; omega
  · show 0 ≤ x.puts ∧ x.puts ≤ ((x.ds.set i _).length : Int); rw [List.length_set]; exact h.puts
  · show (x.bs.set c (-1)).length = 64; rw [List.length_set]; exact h.bsl
  · show (x.bs.set c (-1))[k]? = some (-1) ∨ ∃ (j : Nat) (e : Dd), (x.bs.set c (-1))[k]? = some (j : Int) ∧ (x.ds.set i _)[j]? = some e ∧ e.en = false
    by_cases hkc : c = k
    · subst hkc; exact Or.inl (List.getElem?_set_self hcb)
    · rw [List.getElem?_set_ne hkc]
      rcases h.bs k hk2 with h1 | ⟨j, e, h1, h2, h3⟩
      · exact Or.inl h1
      · have hji : i ≠ j := fun e1 => hkc (h.inj c k i hb (by rw [e1]; exact h1))
        exact Or.inr ⟨j, e, h1, (List.getElem?_set_ne hji).trans h2, h3⟩
  · replace h1 : (x.bs.set c (-1))[k]? = some (j : Int) := h1
    replace h2 : (x.bs.set c (-1))[k']? = some (j : Int) := h2
    have hne : ∀ k, (x.bs.set c (-1))[k]? = some (j : Int) → c ≠ k := fun k hk2 e => by
      subst e
      rw [List.getElem?_set_self hcb] at hk2
      have := Option.some.inj hk2
      omega
    rw [List.getElem?_set_ne (hne k h1)] at h1
    rw [List.getElem?_set_ne (hne k' h2)] at h2
    exact h.inj k k' j h1 h2
  · show DdOk n' ver' o' (x.now + 1) e
    replace hj : (x.ds.set i _)[j]? = some e := hj
    by_cases hji : i = j
    · subst hji
      rw [List.getElem?_set_self hi] at hj
      cases hj
      refine ⟨hD.op, ?_, fun τ hτ => ?_, hk, fun e1 => Bool.noConfusion e1, fun _ => hE⟩
      · show ((d.ts ++ [x.now]).length : Int) ≤ x.now + 1
        rw [List.length_append, List.length_singleton]; have := hD.nt; omega
      · rcases List.mem_append.1 hτ with h1 | h1
        · have := hD.lt τ h1; omega
        · rw [List.mem_singleton] at h1; omega
    · rw [List.getElem?_set_ne hji] at hj
      have hF := h.ds j e hj
      exact ⟨hF.op, by have := hF.nt; omega, fun τ hτ => by have := hF.lt τ hτ; omega, hF.kl, fun h1 => hLv e (hF.lv h1), fun h1 => (hF.ed h1).mono (hah _ (hF.ed h1).at_lt) (by omega)⟩
  · replace hj : (x.ds.set i _)[j]? = some e := hj
    show ∃ k, k < 64 ∧ (x.bs.set c (-1))[k]? = some (j : Int)
    by_cases hji : i = j
    · subst hji
      rw [List.getElem?_set_self hi] at hj
      cases hj
      cases hen
    · rw [List.getElem?_set_ne hji] at hj
      obtain ⟨k, hk1, hk2⟩ := h.own j e hj hen
      refine ⟨k, hk1, ?_⟩
      have hkc : c ≠ k := fun e1 => by
        subst e1
        rw [hb] at hk2
        have := Option.some.inj hk2
        omega
      rw [List.getElem?_set_ne hkc]; exact hk2
  · rw [ho, List.pairwise_append]
    refine ⟨h.os, ?_, fun a ha b hb2 => by have := h.ot a ha; have := hot b hb2; omega⟩
    cases (tkD { d with tm := tm, f := ⟨#[]⟩, ts := d.ts ++ [x.now], kns := kns, rf := d.rf, en := true, er := er, fd := fd, va := va, pt := pt, kv := kv, vv := vv, cv := cv, ks := ks, vs := vs, cs := cs }) <;> simp
  · show o'.Perm (tkE (x.ds.set i _))
    rw [ho]
    exact (List.Perm.append_right _ h.op).trans (tkE_fin x.ds i d _ hd he rfl)
  · show e.t < x.now + 1
    rw [ho] at he2
    rcases List.mem_append.1 he2 with h1 | h1
    · have := h.ot e h1; omega
    · have := hot e h1; omega
  · rw [ho] at he2
    rcases List.mem_append.1 he2 with h1 | h1
    · exact h.ok e h1
    · rw [Option.mem_toList] at h1
      unfold tkD at h1
      split at h1
      next h2 => cases h1; exact h2.1
      next => cases h1
end Go.Proofs.YtjpgldeeopmbgaaDoor.Sap
