/- WHAT IS PROVED HERE: what the Swap of a Put or a Drop makes of the world, done and not done, over pages of which page 0 alone is there, a leaf; how an operation is begun. Conditions: those of Pre, and the state that the operation is in. -/
import Derived.Test.YtjpgldeeopmbgaaDoorY4
namespace Go.Proofs.YtjpgldeeopmbgaaDoor.Sap
open Go.RowKit

theorem step_done {x : Wd} {c i : Nat} {d : Dd} {n n' : Nd} {t T : ByteArray} {ver va : Int} {fnd : Bool} (h : Pre x c i d n t ver) (hk : d.k = 2 ∨ d.k = 3) (hn : Unp T.data.toList n') (hlv : n'.lv = 0) (hva : 0 ≤ va ∧ va ≤ 9999) (hfn : fnd = false → va = 0) (hkn : d.kns[0]? = some ver) (hf : d.f.data.toList = frT (wrS d.k d.key d.v d.ts.length T ver fnd va)) (fr : List As) (w0 w : World) (B : Nat) (htab : Tab w0) (hB : B = w0.heap.size) (hM : M w0 B w (x.as ++ fr)) :
    Calls Tryd.prog 63 #[.pointer (some ⟨x.gw, 0, none⟩), .int .i64 c] w fun e w' => (∃ u, e = .returned u) ∧ ∃ tm kv vv cv, M w0 B w' ((x.fin c i d (x.T.set 0 T) (x.V.set 0 (ver + 1)) (d.kns.set 0 (ver + 1)) 0 fnd va d.ts.length [] [] [] tm kv vv cv).as ++ fr) := by
  have hok := wrS_ok (step := d.ts.length) (T := T) (ver := ver) (fnd := fnd) (va := va) h.op (by have := h.nt; omega) hk h.vb hva hfn ⟨n', hn, hlv⟩
  exact sys_end x d c i 2 0 ver 0 0 T ⟨#[]⟩ true d.rf (d.kns.set 0 (ver + 1)) (x.V.set 0 (ver + 1)) (x.T.set 0 T) x.U 0 fnd va d.ts.length [] [] [] fr w0 w B htab hB h.cl h.bs h.ds h.live h.kp (fun e => by rw [h.wt] at e; cases e) h.nd h.nt h.now
    (fun W => next_swap (wrS d.k d.key d.v d.ts.length T ver fnd va) d.f W hf hok (unp_ne hn))
    ⟨Or.inr (Or.inl ⟨0, rfl, rfl, by omega, h.vb.1, h.vb.2, hk, ⟨n', hn⟩, h.U, hkn, rfl, rfl, rfl, rfl, rfl, Or.inl ⟨h.V, rfl, ⟨t, h.T⟩, rfl, rfl, rfl⟩⟩)⟩
    (fun W ht => tell_swap_done (wrS d.k d.key d.v d.ts.length T ver fnd va) d.f W ht hf hok (unp_ne hn) (by show (d.ts.length : Int) ≤ _; have := h.nt; omega)) hM

theorem step_not {x : Wd} {c i : Nat} {d : Dd} {n n' : Nd} {t T : ByteArray} {ver v0 va : Int} {fnd : Bool} (h : Pre x c i d n t ver) (hk : d.k = 2 ∨ d.k = 3) (hn : Unp T.data.toList n') (hlv : n'.lv = 0) (hva : 0 ≤ va ∧ va ≤ 9999) (hfn : fnd = false → va = 0) (hkn : d.kns[0]? = some v0) (hv0 : 0 ≤ v0 ∧ v0 ≤ ver) (hne : v0 ≠ ver) (hf : d.f.data.toList = frT (wrS d.k d.key d.v d.ts.length T v0 fnd va)) (fr : List As) (w0 w : World) (B : Nat) (htab : Tab w0) (hB : B = w0.heap.size) (hM : M w0 B w (x.as ++ fr)) :
    Calls Tryd.prog 63 #[.pointer (some ⟨x.gw, 0, none⟩), .int .i64 c] w fun e w' => (∃ u, e = .returned u) ∧ ∃ tm f, f.data.toList = frT (rdS d.k d.key d.v (d.ts.length + 1)) ∧ M w0 B w' ((x.go i d tm f d.kns).as ++ fr) := by
  have hvb := h.vb
  have hok := wrS_ok (step := d.ts.length) (T := T) (ver := v0) (fnd := fnd) (va := va) h.op (by have := h.nt; omega) hk (by omega) hva hfn ⟨n', hn, hlv⟩
  refine sys_go x d c i 2 0 v0 0 0 T ⟨#[]⟩ false d.rf d.kns x.V x.T x.U (fun f => f.data.toList = frT (rdS d.k d.key d.v (d.ts.length + 1))) fr w0 w B htab hB h.cl h.bs h.ds h.live h.kp (fun e => by rw [h.wt] at e; cases e) h.nd h.nt h.now
    (fun W => next_swap (wrS d.k d.key d.v d.ts.length T v0 fnd va) d.f W hf hok (unp_ne hn))
    ⟨Or.inr (Or.inl ⟨0, rfl, rfl, by omega, hv0.1, by omega, hk, ⟨n', hn⟩, h.U, hkn, rfl, rfl, rfl, rfl, rfl, Or.inr ⟨ver, h.V, fun e => hne e.symm, rfl, rfl, rfl, rfl⟩⟩)⟩
    (fun W ht => ?_) hM
  exact tell_swap_not (wrS d.k d.key d.v d.ts.length T v0 fnd va) d.f W ht hf hok (unp_ne hn) (by show (d.ts.length : Int) ≤ _; have := h.nt; omega)

theorem begin_step (x : Wd) (c : Nat) (k key v : Int) (fr : List As) (w0 w : World) (B : Nat) (htab : Tab w0) (hB : B = w0.heap.size) (hc : c < 64) (hnd : x.ds.length ≤ 100000000) (hp0 : 0 ≤ x.puts) (hp1 : x.puts ≤ 100000000) (ho : opR k key v = true) (hM : M w0 B w (x.as ++ fr)) :
    Calls Tryd.prog 31 #[.pointer (some ⟨x.gw, 0, none⟩), .int .i64 c, .agg #[.int .i64 k, .int .i64 key, .int .i64 v]] w fun e w' => (∃ u, e = .returned u) ∧ ∃ (gd kg kc : Nat) (f : ByteArray) (dv' : Value), f.data.toList = frT (rdS k key v 0) ∧ M w0 B w' (({ x with dv := dv', bs := x.bs.set c x.ds.length, puts := pu k x.puts, ds := x.ds ++ [Dd.new gd kg kc k key v f] } : Wd).as ++ fr) := by
  refine sys_begin x c k key v (fun f => f.data.toList = frT (rdS k key v 0)) fr w0 w B htab hB hc hnd hp0 hp1 (fun W ht => ?_) hM
  refine (begin_any k key v W ht).mono ?_
  rintro e w' ⟨hR, hb⟩
  rcases hR with ⟨hno, -⟩ | ⟨-, f, he, hf⟩
  · rw [ho] at hno; cases hno
  · exact ⟨⟨f, he, hf⟩, hb⟩
end Go.Proofs.YtjpgldeeopmbgaaDoor.Sap
