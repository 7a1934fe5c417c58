/- WHAT IS PROVED HERE: an operation that moves alone, nobody else being under way, is answered as the leaf has it; so the six operations of saplingkeep's proved are answered as the document has it, and the program at this commit is good (Good). Conditions: the numbers are small. -/
import Derived.Test.YtjpgldeeopmbgaaDoorY8
namespace Go.Proofs.YtjpgldeeopmbgaaDoor.Sap
open Go.RowKit

/-- The answer of an operation that moved alone over the leaf n; n': the leaf behind it. -/
def Res (n : Nd) (k key v : Int) (n' : Nd) (d' : Dd) : Prop :=
  (d'.er = 4 ∧ k = 2 ∧ lmap n key = none ∧ 5 ≤ n.ks.length ∧ n' = n) ∨
  (d'.er = 0 ∧ k ≠ 4 ∧ d'.fd = (lmap n key).isSome ∧ d'.va = (lmap n key).getD 0 ∧ (k = 1 → d'.pt = 0 ∧ d'.ts.length = 1) ∧ ∀ q, lmap n' q = upd k key v (lmap n) q) ∨
  (d'.er = 0 ∧ k = 4 ∧ n' = n ∧ d'.fd = decide (0 < (scK (rdS k key v 0) n).length) ∧ d'.va = (scK (rdS k key v 0) n).length)

/-- A world in which client 0 alone may be under way, with its i-th operation; the leaf was n when it was begun. -/
def LoI (gw : Nat) (n : Nd) (i N : Nat) (k key v : Int) (top : Int) (x : Wd) : Prop :=
  ∃ n' t' ver' o', Inv gw x n' t' ver' o' ∧ x.now + ((if x.bs[0]? = some (-1) then 0 else rkI 0 x : Nat) : Int) ≤ top ∧ x.ds.length = N ∧ (∀ c, c < 64 → c ≠ 0 → x.bs[c]? = some (-1)) ∧
    ∃ d', x.ds[i]? = some d' ∧ d'.k = k ∧ d'.key = key ∧ d'.v = v ∧ ((x.bs[0]? = some (i : Int) ∧ d'.en = false ∧ n' = n) ∨ (x.bs[0]? = some (-1) ∧ d'.en = true ∧ Res n k key v n' d'))

theorem ne_neg {i : Nat} : ¬ (some (i : Int) = some (-1)) := fun e => by have := Option.some.inj e; omega

theorem lone {n : Nd} {i N : Nat} {k key v : Int} {top : Int} (w0 : World) (htab : Tab w0) (x0 : Wd) (h0 : LoI w0.heap.size n i N k key v top x0) (htop : top ≤ 90000000) (hN : N ≤ 100000000) (hi : x0.bs[0]? = some (i : Int)) (fr : List As) (w : World) (hM : M w0 w0.heap.size w (x0.as ++ fr)) :
    Calls Tryd.prog 32 #[.pointer (some ⟨w0.heap.size, 0, none⟩), .int .i64 0] w fun e w' => (∃ u, e = .returned u) ∧ ∃ x', LoI w0.heap.size n i N k key v top x' ∧ x'.bs[0]? = some (-1) ∧ M w0 w0.heap.size w' (x'.as ++ fr) := by
  refine alone_gen 0 w0.heap.size (LoI w0.heap.size n i N k key v top) (fun x => if x.bs[0]? = some (-1) then 0 else rkI 0 x) fr w0 w w0.heap.size x0 (by omega) (fun x hx => ?_) (fun x hx => ?_) (fun x j W hx hb hW => ?_) h0 ?_ hM
  · obtain ⟨_, _, _, _, h, -⟩ := hx; exact h.pg
  · obtain ⟨n', t', ver', o', h, -, -, -, d', h1, -, -, -, h2⟩ := hx
    rcases h2 with ⟨h3, -, -⟩ | ⟨h3, -, -⟩
    · refine Or.inr ⟨⟨i, h3⟩, ?_⟩
      show 0 < (if x.bs[0]? = some (-1) then 0 else rkI 0 x)
      rw [h3, if_neg ne_neg, rkI_at h3 h1]
      split
      · omega
      · split <;> omega
    · exact Or.inl h3
  · obtain ⟨n', t', ver', o', h, ht, hl, hid, d', hd, hk, hkey, hv, h2⟩ := hx
    rcases h2 with ⟨h3, he, hn⟩ | ⟨h3, -, -⟩
    · obtain rfl : j = i := by rw [hb] at h3; have := Option.some.inj h3; omega
      subst hn
      rw [hb, if_neg ne_neg] at ht
      have hpos : 0 < rkI 0 x := by
        rw [rkI_at hb hd]
        split
        · omega
        · split <;> omega
      have C := h.move (by omega) hb hd (by omega) (by omega) fr w0 W w0.heap.size htab rfl hW
      rw [h.pg] at C
      refine C.mono ?_
      rintro e w' ⟨hu, x', ⟨n2, t2, ver2, o2, hI, hX, hR, d2, e1, e2, e3, e4, e5, e6⟩, hM'⟩
      have hlt : (if x'.bs[0]? = some (-1) then 0 else rkI 0 x') < (if x.bs[0]? = some (-1) then 0 else rkI 0 x) := by
        rw [hb, if_neg ne_neg]
        rcases hR with hR | hR
        · rw [if_pos hR]; exact hpos
        · split <;> omega
      refine ⟨hu, x', ⟨n2, t2, ver2, o2, hI, ?_, by rw [hX.nd]; exact hl, fun c hc hc0 => by rw [hX.bs c hc0]; exact hid c hc hc0, d2, e1, e2.trans hk, e3.trans hkey, e4.trans hv, ?_⟩, hlt, hM'⟩
      · have := hX.now
        rw [hb, if_neg ne_neg] at hlt
        omega
      · rcases e6 with ⟨a1, a2, a3⟩ | ⟨a1, a2, a3⟩
        · exact Or.inl ⟨a1, a2, a3⟩
        · refine Or.inr ⟨a1, a2, ?_⟩
          rw [hk, hkey, hv] at a3
          rcases a3 with a3 | ⟨b1, b2, b3, b4, b5, b6⟩ | a3
          · exact Or.inl a3
          · refine Or.inr (Or.inl ⟨b1, b2, b3, b4, fun h1 => ⟨b5 h1, ?_⟩, b6⟩)
            rcases ((h.ds j d' hd).lv he).st with ⟨-, hts⟩ | ⟨hk2, -⟩
            · rw [e5, hts (Or.inl (by omega))]; rfl
            · omega
          · exact Or.inr (Or.inr a3)
    · rw [hb] at h3
      exact absurd h3 ne_neg
  · obtain ⟨n', t', ver', o', h, ht, hl, hid, d', hd, -⟩ := h0
    show (if x0.bs[0]? = some (-1) then 0 else rkI 0 x0) ≤ 1000
    rw [hi, if_neg ne_neg, rkI_at hi hd]
    split
    · omega
    · split <;> omega

/-- An operation of client 0, begun where nobody is under way. -/
theorem lone_begin {x : Wd} {n : Nd} {t : ByteArray} {ver : Int} {o : List Dn} (w0 : World) (htab : Tab w0) (h : Inv w0.heap.size x n t ver o) (hid : ∀ c, c < 64 → x.bs[c]? = some (-1)) (hnd : x.ds.length ≤ 90000000) {k key v : Int} (ho : opR k key v = true) (fr : List As) (w : World) (hM : M w0 w0.heap.size w (x.as ++ fr)) :
    Calls Tryd.prog 31 #[.pointer (some ⟨w0.heap.size, 0, none⟩), .int .i64 0, .agg #[.int .i64 k, .int .i64 key, .int .i64 v]] w fun e w' => (∃ u, e = .returned u) ∧ ∃ x', LoI w0.heap.size n x.ds.length (x.ds.length + 1) k key v (x.now + 3) x' ∧ x'.bs[0]? = some (x.ds.length : Int) ∧ M w0 w0.heap.size w' (x'.as ++ fr) := by
  have hp := h.puts
  have C := begin_step x 0 k key v fr w0 w w0.heap.size htab rfl (by omega) (by omega) hp.1 (by omega) ho hM
  rw [h.pg] at C
  refine C.mono ?_
  rintro e w' ⟨hu, gd, kg, kc, f, dv, hf, hM'⟩
  have hI := h.begun (c := 0) (by omega) (hid 0 (by omega)) ho gd kg kc f dv hf
  rw [h.pg] at hI
  have hb : (x.bs.set 0 (x.ds.length : Int))[0]? = some (x.ds.length : Int) := List.getElem?_set_self (by rw [h.bsl]; omega)
  have hd : (x.ds ++ [Dd.new gd kg kc k key v f])[x.ds.length]? = some (Dd.new gd kg kc k key v f) := by rw [List.getElem?_append_right (Nat.le_refl _), Nat.sub_self]; rfl
  refine ⟨hu, { x with gw := w0.heap.size, dv := dv, bs := x.bs.set 0 x.ds.length, puts := pu k x.puts, ds := x.ds ++ [Dd.new gd kg kc k key v f] }, ⟨n, t, ver, o, hI, ?_, ?_, fun c hc hc0 => ?_, _, hd, rfl, rfl, rfl, Or.inl ⟨hb, rfl, rfl⟩⟩, hb, hM'⟩
  · show x.now + ((if (x.bs.set 0 (x.ds.length : Int))[0]? = some (-1) then 0 else rkI 0 _ : Nat) : Int) ≤ x.now + 3
    rw [hb, if_neg ne_neg, rkI_at (x := { x with gw := w0.heap.size, dv := dv, bs := x.bs.set 0 x.ds.length, puts := pu k x.puts, ds := x.ds ++ [Dd.new gd kg kc k key v f] }) hb hd]
    split
    · omega
    · split <;> omega
  · show (x.ds ++ [_]).length = _; rw [List.length_append, List.length_singleton]
  · show (x.bs.set 0 _)[c]? = _
    rw [List.getElem?_set_ne (fun e => hc0 e.symm)]; exact hid c hc
end Go.Proofs.YtjpgldeeopmbgaaDoor.Sap
