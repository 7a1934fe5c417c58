/- WHAT IS PROVED HERE: one access of an operation, over pages of which page 0 alone is there, a leaf: what saplingkeep's move makes of the world, for each kind of operation and each state that it may be in. Conditions: named at each theorem. -/
import Derived.Test.YtjpgldeeopmbgaaDoorY2
import Derived.Test.YtjpgldeeopmbgaaDoorV5
import Derived.Test.YtjpgldeeopmbgaaDoorN8
namespace Go.Proofs.YtjpgldeeopmbgaaDoor.Sap
open Go.RowKit

/-- The value that a frame bears. -/
def valS (k v : Int) : Int := if k = 1 ∨ k = 3 then 0 else v
/-- An operation that is to read page 0; that is to swap it. -/
def rdS (k key v : Int) (step : Nat) : St := ⟨k, key, valS k v, step, 0, [], [], [], [], ⟨#[]⟩, 0, false, 0⟩
def wrS (k key v : Int) (step : Nat) (T : ByteArray) (ver : Int) (fnd : Bool) (va : Int) : St := ⟨k, key, valS k v, step, 0, [], [], [], [], T, ver, fnd, va⟩

theorem opR_parts {k key v : Int} (h : opR k key v = true) : 1 ≤ key ∧ key ≤ 9999 ∧ (k = 1 ∨ k = 3 ∨ (k = 2 ∧ 0 ≤ v ∧ v ≤ 9999) ∨ (k = 4 ∧ key ≤ v ∧ v ≤ 9999)) := by
  simp only [opR, Bool.and_eq_true, Bool.or_eq_true, decide_eq_true_eq] at h
  omega
theorem opR_valS {k key v : Int} (h : opR k key v = true) : opR k key (valS k v) = true := by
  have h1 := opR_parts h
  unfold valS
  simp only [opR, Bool.and_eq_true, Bool.or_eq_true, decide_eq_true_eq]
  split <;> omega
theorem valS_rng {k key v : Int} (h : opR k key v = true) : 0 ≤ valS k v ∧ valS k v ≤ 9999 := by
  have h1 := opR_parts h
  unfold valS
  split <;> omega
theorem rdS_ok {k key v : Int} {step : Nat} (h : opR k key v = true) (hs : step ≤ 1000000000) : StOk (rdS k key v step) := by
  have hv := valS_rng h
  refine ⟨opR_valS h, ?_, ?_, ?_, by simp [rdS], by simp [rdS], by simp [rdS], rfl, by simp [rdS], rfl, by simp [rdS], rfl, ?_, ?_, by simp [rdS], Or.inl ⟨rfl, rfl, rfl, rfl⟩, Or.inr ⟨rfl, rfl, rfl, rfl⟩⟩
  · unfold Fr rdS; simp only; omega
  · unfold Fr rdS; simp only; omega
  · unfold rdS; simp only; omega
  · unfold Fr rdS; simp
  · unfold Fr rdS; simp
theorem wrS_ok {k key v : Int} {step : Nat} {T : ByteArray} {ver : Int} {fnd : Bool} {va : Int} (h : opR k key v = true) (hs : step ≤ 1000000000) (hk : k = 2 ∨ k = 3) (hver : 0 ≤ ver ∧ ver ≤ 1000000000) (hva : 0 ≤ va ∧ va ≤ 9999) (hf : fnd = false → va = 0) (hT : ∃ n, Unp T.data.toList n ∧ n.lv = 0) : StOk (wrS k key v step T ver fnd va) := by
  have hv := valS_rng h
  refine ⟨opR_valS h, ?_, ?_, ?_, by simp [wrS], by simp [wrS], by simp [wrS], rfl, by simp [wrS], rfl, by simp [wrS], rfl, ?_, ?_, hva.2, Or.inr ⟨hk, hf, hT⟩, Or.inr ⟨rfl, rfl, rfl, rfl⟩⟩
  · unfold Fr wrS; simp only; omega
  · unfold Fr wrS; simp only; omega
  · unfold wrS; simp only; omega
  · unfold Fr wrS; simp only; omega
  · unfold Fr wrS; simp only; omega
theorem unp_ne {T : ByteArray} {n : Nd} (h : Unp T.data.toList n) : T ≠ ⟨#[]⟩ := fun e => by
  have := (unp_size ⟨n, h⟩).1
  rw [e] at this
  exact absurd this (by decide)

/-- The world behind an access with which the operation goes on; with which it has ended. -/
def Wd.go (x : Wd) (i : Nat) (d : Dd) (tm : Value) (f : ByteArray) (kns : List Int) : Wd :=
  { x with now := x.now + 1, rf := x.rf || d.rf, ds := x.ds.set i { d with tm := tm, f := f, ts := d.ts ++ [x.now], kns := kns, rf := d.rf } }
def Wd.fin (x : Wd) (c i : Nat) (d : Dd) (T : List ByteArray) (V : List Int) (kns : List Int) (er : Int) (fd : Bool) (va pt : Int) (ks vs : List Int) (cs : List (Int × Int)) (tm kv vv cv : Value) : Wd :=
  { x with T := T, V := V, bs := x.bs.set c (-1), now := x.now + 1, rf := x.rf || d.rf, ds := x.ds.set i { d with tm := tm, f := ⟨#[]⟩, ts := d.ts ++ [x.now], kns := kns, rf := d.rf, en := true, er := er, fd := fd, va := va, pt := pt, kv := kv, vv := vv, cv := cv, ks := ks, vs := vs, cs := cs } }

/-- What is known of the world and of the operation that moves. -/
structure Pre (x : Wd) (c i : Nat) (d : Dd) (n : Nd) (t : ByteArray) (ver : Int) : Prop where
  cl : c < 64
  bs : x.bs[c]? = some (i : Int)
  ds : x.ds[i]? = some d
  live : d.live
  kp : x.kp = false
  wt : x.wt = false
  nd : x.ds.length ≤ 100000000
  nt : d.ts.length ≤ 100000000
  now : 0 ≤ x.now ∧ x.now ≤ 100000000000
  op : opR d.k d.key d.v = true
  T : x.T[0]? = some t
  un : Unp t.data.toList n
  lv : n.lv = 0
  hi : n.hi = 10000
  U : x.U[0]? = some true
  V : x.V[0]? = some ver
  vb : 0 ≤ ver ∧ ver ≤ 1000000000

theorem accR_read {x : Wd} {c i : Nat} {d : Dd} {n : Nd} {t : ByteArray} {ver : Int} (h : Pre x c i d n t ver) : AccR d.k 1 0 0 ⟨#[]⟩ x.T x.U x.V d.kns d.rf ver 0 t false x.T x.U x.V (d.kns.set 0 ver) d.rf :=
  ⟨Or.inl ⟨0, rfl, rfl, by omega, rfl, rfl, h.U, h.T, h.V, rfl, rfl, rfl, rfl, rfl, rfl, rfl⟩⟩

/-- A move of an operation that reads, and of which Tell is known to go on. -/
theorem move_read_go {x : Wd} {c i : Nat} {d : Dd} {n : Nd} {t : ByteArray} {ver : Int} (h : Pre x c i d n t ver) (P : ByteArray → Prop) (hf : d.f.data.toList = frT (rdS d.k d.key d.v d.ts.length)) (fr : List As) (w0 w : World) (B : Nat) (htab : Tab w0) (hB : B = w0.heap.size)
    (hT : ∀ W, Tab W → Calls Tryd.prog 70 #[.string d.f, .agg #[.int .i64 ver, .int .i64 0, .string t, .bool false]] W fun e w' => GoR P W w' e) (hM : M w0 B w (x.as ++ fr)) :
    Calls Tryd.prog 63 #[.pointer (some ⟨x.gw, 0, none⟩), .int .i64 c] w fun e w' => (∃ u, e = .returned u) ∧ ∃ tm f, P f ∧ M w0 B w' ((x.go i d tm f (d.kns.set 0 ver)).as ++ fr) :=
  sys_go x d c i 1 0 0 ver 0 ⟨#[]⟩ t false d.rf (d.kns.set 0 ver) x.V x.T x.U P fr w0 w B htab hB h.cl h.bs h.ds h.live h.kp (fun e => by rw [h.wt] at e; cases e) h.nd h.nt h.now
    (fun W => next_read (rdS d.k d.key d.v d.ts.length) d.f W hf (rdS_ok h.op (by have := h.nt; omega)) rfl) (accR_read h) hT hM
theorem move_read_end {x : Wd} {c i : Nat} {d : Dd} {n : Nd} {t : ByteArray} {ver : Int} (h : Pre x c i d n t ver) (er : Int) (fd : Bool) (va pt : Int) (ks vs : List Int) (cs : List (Int × Int)) (hf : d.f.data.toList = frT (rdS d.k d.key d.v d.ts.length)) (fr : List As) (w0 w : World) (B : Nat) (htab : Tab w0) (hB : B = w0.heap.size)
    (hT : ∀ W, Tab W → Calls Tryd.prog 70 #[.string d.f, .agg #[.int .i64 ver, .int .i64 0, .string t, .bool false]] W fun e w' => FinR er fd va pt ks vs cs W w' e) (hM : M w0 B w (x.as ++ fr)) :
    Calls Tryd.prog 63 #[.pointer (some ⟨x.gw, 0, none⟩), .int .i64 c] w fun e w' => (∃ u, e = .returned u) ∧ ∃ tm kv vv cv, M w0 B w' ((x.fin c i d x.T x.V (d.kns.set 0 ver) er fd va pt ks vs cs tm kv vv cv).as ++ fr) :=
  sys_end x d c i 1 0 0 ver 0 ⟨#[]⟩ t false d.rf (d.kns.set 0 ver) x.V x.T x.U er fd va pt ks vs cs fr w0 w B htab hB h.cl h.bs h.ds h.live h.kp (fun e => by rw [h.wt] at e; cases e) h.nd h.nt h.now
    (fun W => next_read (rdS d.k d.key d.v d.ts.length) d.f W hf (rdS_ok h.op (by have := h.nt; omega)) rfl) (accR_read h) hT hM
end Go.Proofs.YtjpgldeeopmbgaaDoor.Sap
