/- WHAT IS PROVED HERE: what one access of a Get, a Scan, a Put or a Drop makes of the world, over pages of which page 0 alone is there, a leaf. Conditions: those of Pre, and the state that the operation is in. -/
import Derived.Test.YtjpgldeeopmbgaaDoorY3
namespace Go.Proofs.YtjpgldeeopmbgaaDoor.Sap
open Go.RowKit

theorem Pre.keyhi {x : Wd} {c i : Nat} {d : Dd} {n : Nd} {t : ByteArray} {ver : Int} (h : Pre x c i d n t ver) : d.key < n.hi := by
  have := (opR_parts h.op).2.1
  have := h.hi
  omega
theorem Pre.notgo {x : Wd} {c i : Nat} {d : Dd} {n : Nd} {t : ByteArray} {ver : Int} (h : Pre x c i d n t ver) : ¬ (n.lv ≠ 0 ∨ n.hi ≤ wantV (rdS d.k d.key d.v d.ts.length)) := by
  have h1 := h.keyhi
  have h2 := h.lv
  have h3 : wantV (rdS d.k d.key d.v d.ts.length) = d.key := rfl
  rw [h3]
  omega

/-- What a leaf has for a key. -/
def lmap (n : Nd) (q : Int) : Option Int := look (n.ks.zip n.vs) q
theorem fnd_lmap {n : Nd} (hr : rightB n = true) (q : Int) : fndB n.ks q n.ks.length = (lmap n q).isSome ∧ fndV n.ks n.vs q n.ks.length = (lmap n q).getD 0 := by
  have hb := right_bd n hr
  have := fnd_look n.ks n.vs q (right_keys n hr) hb.2.2.2.1 n.ks.length (Nat.le_refl _)
  rw [List.take_of_length_le (by simp; omega)] at this
  exact this
theorem lmap_rng {n : Nd} (hr : rightB n = true) (hlv : n.lv = 0) (q : Int) : 0 ≤ (lmap n q).getD 0 ∧ (lmap n q).getD 0 ≤ 9999 := by
  cases h : lmap n q with
  | none => exact ⟨by decide, by decide⟩
  | some v =>
    have hb := (right_bd n hr).2.2.2.2.2.2.2 v (List.of_mem_zip (mem_look h)).2
    rw [hlv] at hb
    have h4 : (10 : Nat) ^ vw 0 = 10000 := rfl
    rw [h4] at hb
    show 0 ≤ v ∧ v ≤ 9999
    omega

theorem step_get {x : Wd} {c i : Nat} {d : Dd} {n : Nd} {t : ByteArray} {ver : Int} (h : Pre x c i d n t ver) (hk : d.k = 1) (hts : d.ts = []) (hf : d.f.data.toList = frT (rdS d.k d.key d.v d.ts.length)) (fr : List As) (w0 w : World) (B : Nat) (htab : Tab w0) (hB : B = w0.heap.size) (hM : M w0 B w (x.as ++ fr)) :
    Calls Tryd.prog 63 #[.pointer (some ⟨x.gw, 0, none⟩), .int .i64 c] w fun e w' => (∃ u, e = .returned u) ∧ ∃ tm kv vv cv, M w0 B w' ((x.fin c i d x.T x.V (d.kns.set 0 ver) 0 (lmap n d.key).isSome ((lmap n d.key).getD 0) 0 [] [] [] tm kv vv cv).as ++ fr) := by
  have hl : d.ts.length = 0 := by rw [hts]; rfl
  have ho : tlO (rdS d.k d.key d.v d.ts.length) n = .fin (lmap n d.key).isSome ((lmap n d.key).getD 0) 0 [] [] [] := by
    unfold tlO
    rw [if_neg h.notgo, if_neg (show ¬ (rdS d.k d.key d.v d.ts.length).kd = 4 by show ¬ d.k = 4; omega)]
    have h1 := fnd_lmap h.un.1 d.key
    show Out.fin (fndB n.ks d.key n.ks.length) (fndV n.ks n.vs d.key n.ks.length) (d.ts.length : Int) [] [] [] = _
    rw [h1.1, h1.2, hl]; rfl
  refine move_read_end h 0 _ _ 0 [] [] [] hf fr w0 w B htab hB (fun W ht => ?_) hM
  have h2 := tell_any (rdS d.k d.key d.v d.ts.length) n d.f t ver W ht hf (rdS_ok h.op (by have := h.nt; omega)) h.un ⟨by show (d.ts.length : Int) ≤ _; omega, by simp [rdS], by simp [rdS], fun s' e => by rw [ho] at e; cases e⟩ rfl (Or.inr (Or.inl hk))
  rw [ho] at h2
  exact h2

theorem adK_le (ks : List Int) (l v : Int) (K : List Int) (k : Nat) : (adK ks l v K k).length ≤ K.length + k := by
  induction k with
  | zero => exact Nat.le_refl _
  | succ k ih =>
    unfold adK
    split
    · rw [List.length_append, List.length_singleton]; omega
    · omega
theorem sc_ends {x : Wd} {c i : Nat} {d : Dd} {n : Nd} {t : ByteArray} {ver : Int} (h : Pre x c i d n t ver) (hk : d.k = 4) : (scK (rdS d.k d.key d.v d.ts.length) n).length < 12 ∧ scB (rdS d.k d.key d.v d.ts.length) n = d.v + 1 := by
  have h1 : (scK (rdS d.k d.key d.v d.ts.length) n).length < 12 := by
    have := adK_le n.ks (wantV (rdS d.k d.key d.v d.ts.length)) (rdS d.k d.key d.v d.ts.length).val [] n.ks.length
    have h6 := (right_bd n h.un.1).2.2.2.2.1
    simp only [List.length_nil] at this
    show (adK n.ks _ _ [] n.ks.length).length < 12
    omega
  refine ⟨h1, ?_⟩
  have hv : (rdS d.k d.key d.v d.ts.length).val = d.v := by show valS d.k d.v = d.v; unfold valS; rw [if_neg (by omega)]
  have h9 := opR_parts h.op
  unfold scB
  rw [if_neg (by omega), hv, h.hi]
  split <;> omega
theorem step_scan {x : Wd} {c i : Nat} {d : Dd} {n : Nd} {t : ByteArray} {ver : Int} (h : Pre x c i d n t ver) (hk : d.k = 4) (hts : d.ts = []) (hf : d.f.data.toList = frT (rdS d.k d.key d.v d.ts.length)) (fr : List As) (w0 w : World) (B : Nat) (htab : Tab w0) (hB : B = w0.heap.size) (hM : M w0 B w (x.as ++ fr)) :
    Calls Tryd.prog 63 #[.pointer (some ⟨x.gw, 0, none⟩), .int .i64 c] w fun e w' => (∃ u, e = .returned u) ∧ ∃ tm kv vv cv, M w0 B w' ((x.fin c i d x.T x.V (d.kns.set 0 ver) 0 (decide (0 < (scK (rdS d.k d.key d.v d.ts.length) n).length)) (scK (rdS d.k d.key d.v d.ts.length) n).length 0 (scK (rdS d.k d.key d.v d.ts.length) n) (scV (rdS d.k d.key d.v d.ts.length) n) [(d.v + 1, 0)] tm kv vv cv).as ++ fr) := by
  have hl : d.ts.length = 0 := by rw [hts]; rfl
  obtain ⟨h12, hB1⟩ := sc_ends h hk
  have hv : (rdS d.k d.key d.v d.ts.length).val = d.v := by show valS d.k d.v = d.v; unfold valS; rw [if_neg (by omega)]
  have ho : tlO (rdS d.k d.key d.v d.ts.length) n = .fin (decide (0 < (scK (rdS d.k d.key d.v d.ts.length) n).length)) (scK (rdS d.k d.key d.v d.ts.length) n).length 0 (scK (rdS d.k d.key d.v d.ts.length) n) (scV (rdS d.k d.key d.v d.ts.length) n) [(d.v + 1, 0)] := by
    unfold tlO
    rw [if_neg h.notgo, if_pos (show (rdS d.k d.key d.v d.ts.length).kd = 4 from hk)]
    unfold scO
    have he : scEnd (rdS d.k d.key d.v d.ts.length) n = true := by
      unfold scEnd
      rw [hB1, hv]; simp
    rw [if_pos he]
    have e1 : (scS (rdS d.k d.key d.v d.ts.length) n).bel.zip (scS (rdS d.k d.key d.v d.ts.length) n).pts = [(d.v + 1, (d.ts.length : Int))] := by
      show ([] ++ [scB (rdS d.k d.key d.v d.ts.length) n]).zip ([] ++ [(d.ts.length : Int)]) = _
      rw [hB1]; rfl
    rw [e1]
    show Out.fin _ _ (d.ts.length : Int) _ _ _ = _
    simp only [hl]; rfl
  refine move_read_end h 0 _ _ 0 _ _ _ hf fr w0 w B htab hB (fun W ht => ?_) hM
  have h2 := tell_any (rdS d.k d.key d.v d.ts.length) n d.f t ver W ht hf (rdS_ok h.op (by have := h.nt; omega)) h.un ⟨by show (d.ts.length : Int) ≤ _; omega, by simp [rdS], by simp [rdS], fun s' e => by rw [ho] at e; cases e⟩ rfl (Or.inr (Or.inr hk))
  rw [ho] at h2
  exact h2

theorem step_dropno {x : Wd} {c i : Nat} {d : Dd} {n : Nd} {t : ByteArray} {ver : Int} (h : Pre x c i d n t ver) (hk : d.k = 3) (hno : lmap n d.key = none) (hf : d.f.data.toList = frT (rdS d.k d.key d.v d.ts.length)) (fr : List As) (w0 w : World) (B : Nat) (htab : Tab w0) (hB : B = w0.heap.size) (hM : M w0 B w (x.as ++ fr)) :
    Calls Tryd.prog 63 #[.pointer (some ⟨x.gw, 0, none⟩), .int .i64 c] w fun e w' => (∃ u, e = .returned u) ∧ ∃ tm kv vv cv, M w0 B w' ((x.fin c i d x.T x.V (d.kns.set 0 ver) 0 false 0 d.ts.length [] [] [] tm kv vv cv).as ++ fr) := by
  have h1 := fnd_lmap h.un.1 d.key
  rw [hno] at h1
  refine move_read_end h 0 _ _ _ [] [] [] hf fr w0 w B htab hB (fun W ht => ?_) hM
  have h2 := tell_drop (rdS d.k d.key d.v d.ts.length) n d.f t ver W ht hf (rdS_ok h.op (by have := h.nt; omega)) h.un rfl h.lv h.keyhi (Or.inr hk) hk h1.1
  rw [show fndV n.ks n.vs (rdS d.k d.key d.v d.ts.length).key n.ks.length = 0 from h1.2] at h2
  exact h2
theorem step_full {x : Wd} {c i : Nat} {d : Dd} {n : Nd} {t : ByteArray} {ver : Int} (h : Pre x c i d n t ver) (hk : d.k = 2) (hno : lmap n d.key = none) (h5 : 5 ≤ n.ks.length) (hf : d.f.data.toList = frT (rdS d.k d.key d.v d.ts.length)) (fr : List As) (w0 w : World) (B : Nat) (htab : Tab w0) (hB : B = w0.heap.size) (hM : M w0 B w (x.as ++ fr)) :
    Calls Tryd.prog 63 #[.pointer (some ⟨x.gw, 0, none⟩), .int .i64 c] w fun e w' => (∃ u, e = .returned u) ∧ ∃ tm kv vv cv, M w0 B w' ((x.fin c i d x.T x.V (d.kns.set 0 ver) 4 false 0 0 [] [] [] tm kv vv cv).as ++ fr) := by
  have h1 := fnd_lmap h.un.1 d.key
  rw [hno] at h1
  exact move_read_end h 4 _ _ _ [] [] [] hf fr w0 w B htab hB (fun W ht => tell_full (rdS d.k d.key d.v d.ts.length) n d.f t ver W ht hf (rdS_ok h.op (by have := h.nt; omega)) h.un rfl h.lv h.keyhi (Or.inl hk) hk h1.1 h5) hM

/-- The leaf behind a Put or a Drop. -/
def chN (n : Nd) (k key v : Int) : Nd := ⟨n.lv, n.lk, n.hi, chK n k key, chV n k key v⟩
theorem step_change {x : Wd} {c i : Nat} {d : Dd} {n : Nd} {t : ByteArray} {ver : Int} (h : Pre x c i d n t ver) (hk : d.k = 2 ∨ d.k = 3) (hs : (lmap n d.key).isSome = true ∨ (d.k = 2 ∧ n.ks.length < 5)) (hf : d.f.data.toList = frT (rdS d.k d.key d.v d.ts.length)) (fr : List As) (w0 w : World) (B : Nat) (htab : Tab w0) (hB : B = w0.heap.size) (hM : M w0 B w (x.as ++ fr)) :
    Calls Tryd.prog 63 #[.pointer (some ⟨x.gw, 0, none⟩), .int .i64 c] w fun e w' => (∃ u, e = .returned u) ∧ ∃ tm f, (∃ T : ByteArray, Unp T.data.toList (chN n d.k d.key (valS d.k d.v)) ∧ f.data.toList = frT (wrS d.k d.key d.v (d.ts.length + 1) T ver (lmap n d.key).isSome ((lmap n d.key).getD 0))) ∧ M w0 B w' ((x.go i d tm f (d.kns.set 0 ver)).as ++ fr) := by
  have h1 := fnd_lmap h.un.1 d.key
  have hb := right_bd n h.un.1
  have h9 := opR_parts h.op
  have hR : rightB (chN n d.k d.key (valS d.k d.v)) = true := by
    refine ch_right n d.k d.key (valS d.k d.v) h.un.1 h.lv hk (fun _ => valS_rng h.op) h9.1 h.keyhi fun h2 => ?_
    rcases hs with hs | hs
    · obtain ⟨v, hv⟩ := Option.isSome_iff_exists.1 hs
      exact Or.inl (List.of_mem_zip (mem_look hv)).1
    · exact Or.inr hs.2
  have ht6 : (tkK n.ks 0 d.key [] n.ks.length).length ≤ 6 := by
    have hz := tk_zip n.ks n.vs 0 d.key [] [] rfl hb.2.2.2.1 n.ks.length (Nat.le_refl _)
    have hz2 := congrArg List.length hz.2
    rw [List.length_zip, List.length_append] at hz2
    have hz3 := List.length_filter_le (fun x : Int × Int => decide (0 ≤ x.1) && decide (x.1 < d.key)) ((n.ks.zip n.vs).take n.ks.length)
    rw [List.length_take, List.length_zip] at hz3
    have := hz.1
    have := hb.2.2.2.2.1
    simp only [List.zip_nil_left, List.length_nil] at hz2
    omega
  refine move_read_go h _ hf fr w0 w B htab hB (fun W ht => ?_) hM
  have h2 := tell_on (rdS d.k d.key d.v d.ts.length) n d.f t ver W ht hf (rdS_ok h.op (by have := h.nt; omega)) h.un rfl h.lv h.keyhi hk (by rw [show fndB n.ks (rdS d.k d.key d.v d.ts.length).key n.ks.length = _ from h1.1]; exact hs) h.vb.1 (by have := h.vb.2; omega) (by show (d.ts.length : Int) ≤ _; have := h.nt; omega) hR ht6 (by rw [show fndV n.ks n.vs (rdS d.k d.key d.v d.ts.length).key n.ks.length = _ from h1.2]; have := lmap_rng h.un.1 h.lv d.key; unfold I64; omega)
  refine h2.mono ?_
  rintro e w' ⟨c5, he, ⟨T, hT, hc⟩, hb'⟩
  refine ⟨c5, he, ⟨T, hT, ?_⟩, hb'⟩
  rw [hc, show fndB n.ks (rdS d.k d.key d.v d.ts.length).key n.ks.length = _ from h1.1, show fndV n.ks n.vs (rdS d.k d.key d.v d.ts.length).key n.ks.length = _ from h1.2]
  rfl
end Go.Proofs.YtjpgldeeopmbgaaDoor.Sap
