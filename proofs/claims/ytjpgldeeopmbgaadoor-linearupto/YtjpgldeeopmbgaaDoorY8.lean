/- WHAT IS PROVED HERE: the beginning of an operation keeps what holds at any time (Inv); so the program at this commit is a machine (Mc) over which scripts are played; what the answers are when all have ended. Conditions: the numbers are small. -/
import Derived.Test.YtjpgldeeopmbgaaDoorY7
import Derived.Test.YtjpgldeeopmbgaaDoorJ2
namespace Go.Proofs.YtjpgldeeopmbgaaDoor.Sap
open Go.RowKit

theorem Inv.begun {gw : Nat} {x : Wd} {n : Nd} {t : ByteArray} {ver : Int} {o : List Dn} (h : Inv gw x n t ver o) {c : Nat} (hc : c < 64) (hb : x.bs[c]? = some (-1)) {k key v : Int} (ho : opR k key v = true) (gd kg kc : Nat) (f : ByteArray) (dv : Value) (hf : f.data.toList = frT (rdS k key v 0)) :
    Inv gw ({ x with dv := dv, bs := x.bs.set c x.ds.length, puts := pu k x.puts, ds := x.ds ++ [Dd.new gd kg kc k key v f] } : Wd) n t ver o := by
  have hcb : c < x.bs.length := by rw [h.bsl]; exact hc
  have hlt : ∀ (k i : Nat), x.bs[k]? = some (i : Int) → i < x.ds.length := fun k i h1 => by
    have hk : k < 64 := by rw [← h.bsl]; exact (List.getElem?_eq_some_iff.1 h1).1
    rcases h.bs k hk with h2 | ⟨j, d, h2, h3, -⟩
    · rw [h1] at h2; have := Option.some.inj h2; omega
    · rw [h1] at h2
      have := Option.some.inj h2
      have := (List.getElem?_eq_some_iff.1 h3).1
      omega
  have hvb := h.vb
  refine ⟨h.pg, h.kp, h.wt, h.ov, h.T, h.un, h.lv, h.hi, h.U, h.V, h.vb, ?_, ?_, fun k hk => ?_, fun k k' i h1 h2 => ?_, fun i d hd => ?_, fun i d hd he => ?_, h.os, ?_, h.ot, h.om, h.ok⟩
  · show 0 ≤ pu k x.puts ∧ pu k x.puts ≤ ((x.ds ++ [_]).length : Int)
    have := h.puts
    rw [List.length_append, List.length_singleton]
    unfold pu
    split <;> omega
  · show (x.bs.set c _).length = 64; rw [List.length_set]; exact h.bsl
  · show (x.bs.set c (x.ds.length : Int))[k]? = some (-1) ∨ ∃ (i : Nat) (d : Dd), (x.bs.set c (x.ds.length : Int))[k]? = some (i : Int) ∧ (x.ds ++ [Dd.new gd kg kc _ key v f])[i]? = some d ∧ d.en = false
    by_cases hkc : c = k
    · subst hkc
      exact Or.inr ⟨x.ds.length, _, List.getElem?_set_self hcb, by rw [List.getElem?_append_right (Nat.le_refl _), Nat.sub_self]; rfl, rfl⟩
    · rw [List.getElem?_set_ne hkc]
      rcases h.bs k hk with h1 | ⟨i, d, h1, h2, h3⟩
      · exact Or.inl h1
      · exact Or.inr ⟨i, d, h1, by rw [List.getElem?_append_left (List.getElem?_eq_some_iff.1 h2).1]; exact h2, h3⟩
  · replace h1 : (x.bs.set c (x.ds.length : Int))[k]? = some (i : Int) := h1
    replace h2 : (x.bs.set c (x.ds.length : Int))[k']? = some (i : Int) := h2
    by_cases hkc : c = k
    · by_cases hkc' : c = k'
      · omega
      · subst hkc
        rw [List.getElem?_set_self hcb] at h1
        rw [List.getElem?_set_ne hkc'] at h2
        have := hlt k' i h2
        have := Option.some.inj h1
        omega
    · rw [List.getElem?_set_ne hkc] at h1
      by_cases hkc' : c = k'
      · subst hkc'
        rw [List.getElem?_set_self hcb] at h2
        have := hlt k i h1
        have := Option.some.inj h2
        omega
      · rw [List.getElem?_set_ne hkc'] at h2
        exact h.inj k k' i h1 h2
  · replace hd : (x.ds ++ [Dd.new gd kg kc k key v f])[i]? = some d := hd
    rcases Nat.lt_trichotomy i x.ds.length with hi | hi | hi
    · rw [List.getElem?_append_left hi] at hd
      exact h.ds i d hd
    · rw [List.getElem?_append_right (by omega), hi, Nat.sub_self] at hd
      cases hd
      exact ⟨ho, by show ((0 : Nat) : Int) ≤ x.now; omega, fun τ hτ => (by cases hτ), by show (List.replicate 64 (-1 : Int)).length = 64; rw [List.length_replicate], fun _ => ⟨⟨rfl, rfl, rfl, rfl, rfl, rfl, rfl, rfl, rfl, rfl, rfl⟩, Or.inl ⟨hf, fun _ => rfl⟩⟩, fun e => Bool.noConfusion e⟩
    · rw [List.getElem?_eq_none (by rw [List.length_append, List.length_singleton]; omega)] at hd
      cases hd
  · replace hd : (x.ds ++ [Dd.new gd kg kc k key v f])[i]? = some d := hd
    show ∃ k, k < 64 ∧ (x.bs.set c (x.ds.length : Int))[k]? = some (i : Int)
    rcases Nat.lt_trichotomy i x.ds.length with hi | hi | hi
    · rw [List.getElem?_append_left hi] at hd
      obtain ⟨k', h1, h2⟩ := h.own i d hd he
      have hkc : c ≠ k' := fun e => by subst e; rw [hb] at h2; have := Option.some.inj h2; omega
      exact ⟨k', h1, by rw [List.getElem?_set_ne hkc]; exact h2⟩
    · exact ⟨c, hc, by rw [List.getElem?_set_self hcb, hi]⟩
    · rw [List.getElem?_eq_none (by rw [List.length_append, List.length_singleton]; omega)] at hd
      cases hd
  · show o.Perm (tkE (x.ds ++ [Dd.new gd kg kc k key v f]))
    have h9 := tkE_snoc x.ds (Dd.new gd kg kc k key v f) rfl
    rw [h9]; exact h.op

def InvG (gw : Nat) (x : Wd) : Prop := (∃ n t ver o, Inv gw x n t ver o) ∧ x.ds.length ≤ 90000001

theorem mcI (w0 : World) (htab : Tab w0) : Mc (InvG w0.heap.size) rkI w0.heap.size w0 w0.heap.size where
  pg := fun x ⟨⟨_, _, _, _, h⟩, _⟩ => h.pg
  bs := fun x c ⟨⟨_, _, _, _, h⟩, _⟩ hc => by
    rcases h.bs c hc with h1 | ⟨i, d, h1, h2, -⟩
    · exact Or.inl h1
    · refine Or.inr ⟨⟨i, h1⟩, ?_⟩
      rw [rkI_at h1 h2]
      split
      · omega
      · split <;> omega
  now := fun x ⟨⟨_, _, _, _, h⟩, _⟩ => by have := h.vb; omega
  mv := fun x c i W fr hc ⟨⟨n, t, ver, o, h⟩, hl⟩ hn hb hM => by
    obtain ⟨d, hd⟩ : ∃ d, x.ds[i]? = some d := by
      rcases h.bs c hc with h1 | ⟨j, d, h1, h2, -⟩
      · rw [hb] at h1; have := Option.some.inj h1; omega
      · obtain rfl : i = j := by rw [hb] at h1; have := Option.some.inj h1; omega
        exact ⟨d, h2⟩
    have C := h.move hc hb hd hn (by omega) fr w0 W w0.heap.size htab rfl hM
    rw [h.pg] at C
    refine C.mono ?_
    rintro e w' ⟨hu, x', ⟨n', t', ver', o', hI, hN, hR, -⟩, hM'⟩
    exact ⟨hu, x', ⟨⟨n', t', ver', o', hI⟩, by rw [hN.nd]; exact hl⟩, hN, hR, hM'⟩
  bg := fun x c k key v W fr hc ⟨⟨n, t, ver, o, h⟩, _⟩ hl ho hb hM => by
    have hp := h.puts
    have C := begin_step x c k key v fr w0 W w0.heap.size htab rfl hc (by omega) hp.1 (by omega) ho hM
    rw [h.pg] at C
    refine C.mono ?_
    rintro e w' ⟨hu, gd, kg, kc, f, dv, hf, hM'⟩
    refine ⟨hu, { x with gw := w0.heap.size, dv := dv, bs := x.bs.set c x.ds.length, puts := pu k x.puts, ds := x.ds ++ [Dd.new gd kg kc k key v f] }, ⟨⟨n, t, ver, o, by have h9 := h.begun hc hb ho gd kg kc f dv hf; rw [h.pg] at h9; exact h9⟩, ?_⟩, rfl, ?_, fun j hj => List.getElem?_set_ne (fun e => hj e.symm), hM'⟩
    · show (x.ds ++ [_]).length ≤ _; rw [List.length_append, List.length_singleton]; omega
    · show (x.ds ++ [_]).length = _; rw [List.length_append, List.length_singleton]

theorem inv_first (gw tg tc ug uc vg vc bg bc : Nat) : Inv gw (Wd.first gw tg tc ug uc vg vc bg bc) ⟨0, -1, 10000, [], []⟩ firstB 0 [] := by
  have hb : ∀ c, c < 64 → (List.replicate 64 (-1 : Int))[c]? = some (-1) := fun c hc => by rw [List.getElem?_replicate, if_pos hc]
  refine ⟨rfl, rfl, rfl, rfl, rfl, first_unp, rfl, rfl, rfl, rfl, ⟨Int.le_refl _, Int.le_refl _⟩, ⟨Int.le_refl _, Int.le_refl _⟩, ?_, fun c hc => Or.inl (hb c hc), fun c c' i h1 _ => ?_, fun i d hd => (by cases hd), fun i d hd => (by cases hd), List.Pairwise.nil, List.Perm.refl _, fun e he => (by cases he), fun q => rfl, fun e he => (by cases he)⟩
  · show (List.replicate 64 (-1 : Int)).length = 64; rw [List.length_replicate]
  · replace h1 : (List.replicate 64 (-1 : Int))[c]? = some (i : Int) := h1
    have hc : c < 64 := by have := (List.getElem?_eq_some_iff.1 h1).1; rw [List.length_replicate] at this; exact this
    rw [hb c hc] at h1
    have := Option.some.inj h1
    omega

theorem Inv.allEnded {gw : Nat} {x : Wd} {n : Nd} {t : ByteArray} {ver : Int} {o : List Dn} (h : Inv gw x n t ver o) (hid : ∀ c, c < 64 → x.bs[c]? = some (-1)) : ∀ d ∈ x.ds, d.en = true ∧ DdOk n ver o x.now d := by
  intro d hd
  obtain ⟨i, hi⟩ := List.mem_iff_getElem?.1 hd
  refine ⟨?_, h.ds i d hi⟩
  cases he : d.en with
  | true => rfl
  | false =>
    obtain ⟨c, hc, hb⟩ := h.own i d hi he
    rw [hid c hc] at hb
    have := Option.some.inj hb
    omega
theorem Inv.over {gw : Nat} {x : Wd} {n : Nd} {t : ByteArray} {ver : Int} {o : List Dn} (h : Inv gw x n t ver o) (hid : ∀ c, c < 64 → x.bs[c]? = some (-1)) (hn : x.now ≤ 90000000) : ∀ d ∈ x.ds, d.over := by
  intro d hd
  obtain ⟨he, hD⟩ := h.allEnded hid d hd
  obtain ⟨p, h1, h2⟩ := (hD.ed he).p
  exact ⟨he, p, h1, h2, by have := hD.nt; omega⟩
/-- The order in which the operations took effect is the only one. -/
theorem Inv.uniq {gw : Nat} {x : Wd} {n : Nd} {t : ByteArray} {ver : Int} {o o' : List Dn} (h : Inv gw x n t ver o) (hid : ∀ c, c < 64 → x.bs[c]? = some (-1)) (hp : o'.Perm (tkL x.ds)) (hs : Srt o') : o' = o := by
  refine srt_uniq o o' h.os ?_ hs
  rw [← tkE_all x.ds fun d hd => (h.allEnded hid d hd).1] at hp
  exact hp.trans h.op.symm
theorem ahead_ok {o : List Dn} (h : ∀ e ∈ o, e.k = 2 ∨ e.k = 3) (τ : Int) : ∀ e ∈ ahead o τ, e.k = 2 ∨ e.k = 3 := fun e he => h e ((List.takeWhile_sublist _).mem he)
theorem Inv.sin {gw : Nat} {x : Wd} {n : Nd} {t : ByteArray} {ver : Int} {o : List Dn} (h : Inv gw x n t ver o) (hid : ∀ c, c < 64 → x.bs[c]? = some (-1)) : ∀ d ∈ x.ds, d.k ≠ 4 → SinOk x d := by
  intro d hd hk
  obtain ⟨he, hD⟩ := h.allEnded hid d hd
  have hE := hD.ed he
  rcases hE.an with ⟨h4, -⟩ | ⟨-, h1, h2, h3, h5⟩
  · exact absurd h4 hk
  · refine ⟨h1, h2, h3, ?_⟩
    rcases h5 with h5 | ⟨e0, e1, e2⟩
    · exact Or.inl h5
    · refine Or.inr ⟨e0, fun o' hp hs fd v hV => ?_⟩
      rw [h.uniq hid hp hs] at hV
      obtain ⟨a1, a2, a3⟩ := tabO_look (ahead o (d.ts[d.pt.toNat]?.getD 0)) (ahead_ok h.ok _)
      obtain ⟨b1, b2⟩ := valR_look a1 a2 hV
      rw [a3] at b1 b2
      exact ⟨e1.trans b1.symm, e2.trans b2.symm⟩
end Go.Proofs.YtjpgldeeopmbgaaDoor.Sap
