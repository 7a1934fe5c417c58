/- WHAT IS PROVED HERE: what one access of a Get, a Scan, a Put or a Drop makes of the world, over pages of which page 0 alone is there, a leaf. Conditions: those of Pre, and the state that the operation is in. -/
import Derived.Test.YtjpgldeeopmbgaaDoorXL7Y3
namespace Go.Proofs.YtjpgldeeopmbgaaDoor.Sap
open Go.RowKit

theorem Pre.keyhi {x : Wd} {c i : Nat} {d : Dd} {n : Nd} {t : ByteArray} {ver : Int} (h : Pre x c i d n t ver) : d.key < n.hi := by
  have := (opR_parts h.op).2.1
  have := h.hi
  omega
theorem Pre.notgo {x : Wd} {c i : Nat} {d : Dd} {n : Nd} {t : ByteArray} {ver : Int} (h : Pre x c i d n t ver) : ¬ (n.lv ≠ 0 ∨ n.hi ≤ wantV (rdS d.k d.key d.v d.ts.length)) := by
  have h1 := h.keyhi
  have h2 := h.lv
  have h3 : wantV (rdS d.k d.key d.v d.ts.length) = d.key := rfl
  rw [h3]
  omega

/-- What a leaf has for a key. -/
def lmap (n : Nd) (q : Int) : Option Int := look (n.ks.zip n.vs) q
theorem fnd_lmap {n : Nd} (hr : rightB n = true) (q : Int) : fndB n.ks q n.ks.length = (lmap n q).isSome ∧ fndV n.ks n.vs q n.ks.length = (lmap n q).getD 0 := by
  have hb := right_bd n hr
  have := fnd_look n.ks n.vs q (right_keys n hr) hb.2.2.2.1 n.ks.length (Nat.le_refl _)
  rw [List.take_of_length_le (by simp; omega)] at this
  exact this
theorem lmap_rng {n : Nd} (hr : rightB n = true) (hlv : n.lv = 0) (q : Int) : 0 ≤ (lmap n q).getD 0 ∧ (lmap n q).getD 0 ≤ 9999 := by
  cases h : lmap n q with
  | none => exact ⟨by decide, by decide⟩
  | some v =>
    have hb := (right_bd n hr).2.2.2.2.2.2.2 v (List.of_mem_zip (mem_look h)).2
    rw [hlv] at hb
    have h4 : (10 : Nat) ^ vw 0 = 10000 := rfl
    rw [h4] at hb
    show 0 ≤ v ∧ v ≤ 9999
    omega

theorem step_get {x : Wd} {c i : Nat} {d : Dd} {n : Nd} {t : ByteArray} {ver : Int} (h : Pre x c i d n t ver) (hk : d.k = 1) (hts : d.ts = []) (hf : d.f.data.toList = frT (rdS d.k d.key d.v d.ts.length)) (fr : List As) (w0 w : World) (B : Nat) (htab : Tab w0) (hB : B = w0.heap.size) (hM : M w0 B w (x.as ++ fr)) :
    Calls Tryd.prog 63 #[.pointer (some ⟨x.gw, 0, none⟩), .int .i64 c] w fun e w' => (∃ u, e = .returned u) ∧ ∃ tm kv vv cv, M w0 B w' ((x.fin c i d x.T x.V (d.kns.set 0 ver) 0 (lmap n d.key).isSome ((lmap n d.key).getD 0) 0 [] [] [] tm kv vv cv).as ++ fr) := by
  have hl : d.ts.length = 0 := by rw [hts]; rfl
  have ho : tlO (rdS d.k d.key d.v d.ts.length) n = .fin (lmap n d.key).isSome ((lmap n d.key).getD 0) 0 [] [] [] := by
    unfold tlO
    rw [if_neg h.notgo, if_neg (show ¬ (rdS d.k d.key d.v d.ts.length).kd = 4 by show ¬ d.k = 4; omega)]
    have h1 := fnd_lmap h.un.1 d.key
    show Out.fin (fndB n.ks d.key n.ks.length) (fndV n.ks n.vs d.key n.ks.length) (d.ts.length : Int) [] [] [] = _
    rw [h1.1, h1.2, hl]; rfl
  refine move_read_end h 0 _ _ 0 [] [] [] hf fr w0 w B htab hB (fun W ht => ?_) hM
  have h2 := tell_any (rdS d.k d.key d.v d.ts.length) n d.f t ver W ht hf (rdS_ok h.op (by have := h.nt; omega)) h.un ⟨by show (d.ts.length : Int) ≤ _; omega, by simp [rdS], by simp [rdS], fun s' e => by rw [ho] at e; cases e⟩ rfl (Or.inr (Or.inl hk))
  rw [ho] at h2
  exact h2

theorem adK_le (ks : List Int) (l v : Int) (K : List Int) (k : Nat) : (adK ks l v K k).length ≤ K.length + k := by
  induction k with
  | zero => exact Nat.le_refl _
  | succ k ih =>
    unfold adK
    split
    · rw [List.length_append, List.length_singleton]; omega
    · omega
theorem sc_ends {x : Wd} {c i : Nat} {d : Dd} {n : Nd} {t : ByteArray} {ver : Int} (h : Pre x c i d n t ver) (hk : d.k = 4) : (scK (rdS d.k d.key d.v d.ts.length) n).length < 12 ∧ scB (rdS d.k d.key d.v d.ts.length) n = d.v + 1 := by
  have h1 : (scK (rdS d.k d.key d.v d.ts.length) n).length < 12 := by
    have := adK_le n.ks (wantV (rdS d.k d.key d.v d.ts.length)) (rdS d.k d.key d.v d.ts.length).val [] n.ks.length
    have h6 := (right_bd n h.un.1).2.2.2.2.1
    simp only [List.length_nil] at this
    show (adK n.ks _ _ [] n.ks.length).length < 12
    omega
  refine ⟨h1, ?_⟩
  have hv : (rdS d.k d.key d.v d.ts.length).val = d.v := by show valS d.k d.v = d.v; unfold valS; rw [if_neg (by omega)]
  have h9 := opR_parts h.op
  unfold scB
  rw [if_neg (by omega), hv, h.hi]
  split <;> omega
theorem step_scan {x : Wd} {c i : Nat} {d : Dd} {n : Nd} {t : ByteArray} {ver : Int} (h : Pre x c i d n t ver) (hk : d.k = 4) (hts : d.ts = []) (hf : d.f.data.toList = frT (rdS d.k d.key d.v d.ts.length)) (fr : List As) (w0 w : World) (B : Nat) (htab : Tab w0) (hB : B = w0.heap.size) (hM : M w0 B w (x.as ++ fr)) :
    Calls Tryd.prog 63 #[.pointer (some ⟨x.gw, 0, none⟩), .int .i64 c] w fun e w' => (∃ u, e = .returned u) ∧ ∃ tm kv vv cv, M w0 B w' ((x.fin c i d x.T x.V (d.kns.set 0 ver) 0 (decide (0 < (scK (rdS d.k d.key d.v d.ts.length) n).length)) (scK (rdS d.k d.key d.v d.ts.length) n).length 0 (scK (rdS d.k d.key d.v d.ts.length) n) (scV (rdS d.k d.key d.v d.ts.length) n) [(d.v + 1, 0)] tm kv vv cv).as ++ fr) := by
  have hl : d.ts.length = 0 := by rw [hts]; rfl
  obtain ⟨h12, hB1⟩ := sc_ends h hk
  have hv : (rdS d.k d.key d.v d.ts.length).val = d.v := by show valS d.k d.v = d.v; unfold valS; rw [if_neg (by omega)]
  have ho : tlO (rdS d.k d.key d.v d.ts.length) n = .fin (decide (0 < (scK (rdS d.k d.key d.v d.ts.length) n).length)) (scK (rdS d.k d.key d.v d.ts.length) n).length 0 (scK (rdS d.k d.key d.v d.ts.length) n) (scV (rdS d.k d.key d.v d.ts.length) n) [(d.v + 1, 0)] := by
    unfold tlO
    rw [if_neg h.notgo, if_pos (show (rdS d.k d.key d.v d.ts.length).kd = 4 from hk)]
    unfold scO
    have he : scEnd (rdS d.k d.key d.v d.ts.length) n = true := by
      unfold scEnd
      rw [hB1, hv]; simp
    rw [if_pos he]
    have e1 : (scS (rdS d.k d.key d.v d.ts.length) n).bel.zip (scS (rdS d.k d.key d.v d.ts.length) n).pts = [(d.v + 1, (d.ts.length : Int))] := by
      show ([] ++ [scB (rdS d.k d.key d.v d.ts.length) n]).zip ([] ++ [(d.ts.length : Int)]) = _
      rw [hB1]; rfl
    rw [e1]
    show Out.fin _ _ (d.ts.length : Int) _ _ _ = _
    simp only [hl]; rfl
  refine move_read_end h 0 _ _ 0 _ _ _ hf fr w0 w B htab hB (fun W ht => ?_) hM
  have h2 := tell_any (rdS d.k d.key d.v d.ts.length) n d.f t ver W ht hf (rdS_ok h.op (by have := h.nt; omega)) h.un ⟨by show (d.ts.length : Int) ≤ _; omega, by simp [rdS], by simp [rdS], fun s' e => by rw [ho] at e; cases e⟩ rfl (Or.inr (Or.inr hk))
  rw [ho] at h2
  exact h2

theorem step_dropno {x : Wd} {c i : Nat} {d : Dd} {n : Nd} {t : ByteArray} {ver : Int} (h : Pre x c i d n t ver) (hk : d.k = 3) (hno : lmap n d.key = none) (hf : d.f.data.toList = frT (rdS d.k d.key d.v d.ts.length)) (fr : List As) (w0 w : World) (B : Nat) (htab : Tab w0) (hB : B = w0.heap.size) (hM : M w0 B w (x.as ++ fr)) :
    Calls Tryd.prog 63 #[.pointer (some ⟨x.gw, 0, none⟩), .int .i64 c] w fun e w' => (∃ u, e = .returned u) ∧ ∃ tm kv vv cv, M w0 B w' ((x.fin c i d x.T x.V (d.kns.set 0 ver) 0 false 0 d.ts.length [] [] [] tm kv vv cv).as ++ fr) := by
  have h1 := fnd_lmap h.un.1 d.key
  rw [hno] at h1
  refine move_read_end h 0 _ _ _ [] [] [] hf fr w0 w B htab hB (fun W ht => ?_) hM
  have h2 := tell_drop (rdS d.k d.key d.v d.ts.length) n d.f t ver W ht hf (rdS_ok h.op (by have := h.nt; omega)) h.un rfl h.lv h.keyhi (Or.inr hk) hk h1.1
  rw [show fndV n.ks n.vs (rdS d.k d.key d.v d.ts.length).key n.ks.length = 0 from h1.2] at h2
  exact h2
theorem step_full {x : Wd} {c i : Nat} {d : Dd} {n : Nd} {t : ByteArray} {ver : Int} (h : Pre x c i d n t ver) (hk : d.k = 2) (hno : lmap n d.key = none) (h5 : 5 ≤ n.ks.length) (hf : d.f.data.toList = frT (rdS d.k d.key d.v d.ts.length)) (fr : List As) (w0 w : World) (B : Nat) (htab : Tab w0) (hB : B = w0.heap.size) (hM : M w0 B w (x.as ++ fr)) :
    Calls Tryd.prog 63 #[.pointer (some ⟨x.gw, 0, none⟩), .int .i64 c] w fun e w' => (∃ u, e = .returned u) ∧ ∃ tm kv vv cv, M w0 B w' ((x.fin c i d x.T x.V (d.kns.set 0 ver) 4 false 0 0 [] [] [] tm kv vv cv).as ++ fr) := by
  have h1 := fnd_lmap h.un.1 d.key
  rw [hno] at h1
  exact move_read_end h 4 _ _ _ [] [] [] hf fr w0 w B htab hB (fun W ht => tell_full (rdS d.k d.key d.v d.ts.length) n d.f t ver W ht hf (rdS_ok h.op (by have := h.nt; omega)) h.un rfl h.lv h.keyhi (Or.inl hk) hk h1.1 h5) hM

/-- The leaf behind a Put or a Drop. -/
def chN (n : Nd) (k key v : Int) : Nd := ⟨n.lv, n.lk, n.hi, chK n k key, chV n k key v⟩
theorem step_change {x : Wd} {c i : Nat} {d : Dd} {n : Nd} {t : ByteArray} {ver : Int} (h : Pre x c i d n t ver) (hk : d.k = 2 ∨ d.k = 3) (hs : (lmap n d.key).isSome = true ∨ (d.k = 2 ∧ n.ks.length < 5)) (hf : d.f.data.toList = frT (rdS d.k d.key d.v d.ts.length)) (fr : List As) (w0 w : World) (B : Nat) (htab : Tab w0) (hB : B = w0.heap.size) (hM : M w0 B w (x.as ++ fr)) :
    Calls Tryd.prog 63 #[.pointer (some ⟨x.gw, 0, none⟩), .int .i64 c] w fun e w' => (∃ u, e = .returned u) ∧ ∃ tm f, (∃ T : ByteArray, Unp T.data.toList (chN n d.k d.key (valS d.k d.v)) ∧ f.data.toList = frT (wrS d.k d.key d.v (d.ts.length + 1) T ver (lmap n d.key).isSome ((lmap n d.key).getD 0))) ∧ M w0 B w' ((x.go i d tm f (d.kns.set 0 ver)).as ++ fr) := by
  have h1 := fnd_lmap h.un.1 d.key
  have hb := right_bd n h.un.1
  have h9 := opR_parts h.op
  have hR : rightB (chN n d.k d.key (valS d.k d.v)) = true := by
    refine ch_right n d.k d.key (valS d.k d.v) h.un.1 h.lv hk (fun _ => valS_rng h.op) h9.1 h.keyhi fun h2 => ?_
    rcases hs with hs | hs
    · obtain ⟨v, hv⟩ := Option.isSome_iff_exists.1 hs
      exact Or.inl (List.of_mem_zip (mem_look hv)).1
    · exact Or.inr hs.2
  have ht6 : (tkK n.ks 0 d.key [] n.ks.length).length ≤ 6 := by
    have hz := tk_zip n.ks n.vs 0 d.key [] [] rfl hb.2.2.2.1 n.ks.length (Nat.le_refl _)
    have hz2 := congrArg List.length hz.2
    rw [List.length_zip, List.length_append] at hz2
    have hz3 := List.length_filter_le (fun x : Int × Int => decide (0 ≤ x.1) && decide (x.1 < d.key)) ((n.ks.zip n.vs).take n.ks.length)
    rw [List.length_take, List.length_zip] at hz3
    have := hz.1
    have := hb.2.2.2.2.1
    simp only [List.zip_nil_left, List.length_nil] at hz2
    omega
  refine move_read_go h _ hf fr w0 w B htab hB (fun W ht => ?_) hM
  have h2 := tell_on (rdS d.k d.key d.v d.ts.length) n d.f t ver W ht hf (rdS_ok h.op (by have := h.nt; omega)) h.un rfl h.lv h.keyhi hk (by rw [show fndB n.ks (rdS d.k d.key d.v d.ts.length).key n.ks.length = _ from h1.1]; exact hs) h.vb.1 (by have := h.vb.2; omega) (by show (d.ts.length : Int) ≤ _; have := h.nt; omega) hR ht6 (by rw [show fndV n.ks n.vs (rdS d.k d.key d.v d.ts.length).key n.ks.length = _ from h1.2]; have := lmap_rng h.un.1 h.lv d.key; unfold I64; omega)
  refine h2.mono ?_
  rintro e w' ⟨c5, he, ⟨T, hT, hc⟩, hb'⟩
  refine ⟨c5, he, ⟨T, hT, ?_⟩, hb'⟩
  rw [hc, show fndB n.ks (rdS d.k d.key d.v d.ts.length).key n.ks.length = _ from h1.1, show fndV n.ks n.vs (rdS d.k d.key d.v d.ts.length).key n.ks.length = _ from h1.2]
  rfl
end Go.Proofs.YtjpgldeeopmbgaaDoor.Sap

/- WHAT IS PROVED HERE: what the Swap of a Put or a Drop makes of the world, done and not done, over pages of which page 0 alone is there, a leaf; how an operation is begun. Conditions: those of Pre, and the state that the operation is in. -/
namespace Go.Proofs.YtjpgldeeopmbgaaDoor.Sap
open Go.RowKit

theorem step_done {x : Wd} {c i : Nat} {d : Dd} {n n' : Nd} {t T : ByteArray} {ver va : Int} {fnd : Bool} (h : Pre x c i d n t ver) (hk : d.k = 2 ∨ d.k = 3) (hn : Unp T.data.toList n') (hlv : n'.lv = 0) (hva : 0 ≤ va ∧ va ≤ 9999) (hfn : fnd = false → va = 0) (hkn : d.kns[0]? = some ver) (hf : d.f.data.toList = frT (wrS d.k d.key d.v d.ts.length T ver fnd va)) (fr : List As) (w0 w : World) (B : Nat) (htab : Tab w0) (hB : B = w0.heap.size) (hM : M w0 B w (x.as ++ fr)) :
    Calls Tryd.prog 63 #[.pointer (some ⟨x.gw, 0, none⟩), .int .i64 c] w fun e w' => (∃ u, e = .returned u) ∧ ∃ tm kv vv cv, M w0 B w' ((x.fin c i d (x.T.set 0 T) (x.V.set 0 (ver + 1)) (d.kns.set 0 (ver + 1)) 0 fnd va d.ts.length [] [] [] tm kv vv cv).as ++ fr) := by
  have hok := wrS_ok (step := d.ts.length) (T := T) (ver := ver) (fnd := fnd) (va := va) h.op (by have := h.nt; omega) hk h.vb hva hfn ⟨n', hn, hlv⟩
  exact sys_end x d c i 2 0 ver 0 0 T ⟨#[]⟩ true d.rf (d.kns.set 0 (ver + 1)) (x.V.set 0 (ver + 1)) (x.T.set 0 T) x.U 0 fnd va d.ts.length [] [] [] fr w0 w B htab hB h.cl h.bs h.ds h.live h.kp (fun e => by rw [h.wt] at e; cases e) h.nd h.nt h.now
    (fun W => next_swap (wrS d.k d.key d.v d.ts.length T ver fnd va) d.f W hf hok (unp_ne hn))
    ⟨Or.inr (Or.inl ⟨0, rfl, rfl, by omega, h.vb.1, h.vb.2, hk, ⟨n', hn⟩, h.U, hkn, rfl, rfl, rfl, rfl, rfl, Or.inl ⟨h.V, rfl, ⟨t, h.T⟩, rfl, rfl, rfl⟩⟩)⟩
    (fun W ht => tell_swap_done (wrS d.k d.key d.v d.ts.length T ver fnd va) d.f W ht hf hok (unp_ne hn) (by show (d.ts.length : Int) ≤ _; have := h.nt; omega)) hM

theorem step_not {x : Wd} {c i : Nat} {d : Dd} {n n' : Nd} {t T : ByteArray} {ver v0 va : Int} {fnd : Bool} (h : Pre x c i d n t ver) (hk : d.k = 2 ∨ d.k = 3) (hn : Unp T.data.toList n') (hlv : n'.lv = 0) (hva : 0 ≤ va ∧ va ≤ 9999) (hfn : fnd = false → va = 0) (hkn : d.kns[0]? = some v0) (hv0 : 0 ≤ v0 ∧ v0 ≤ ver) (hne : v0 ≠ ver) (hf : d.f.data.toList = frT (wrS d.k d.key d.v d.ts.length T v0 fnd va)) (fr : List As) (w0 w : World) (B : Nat) (htab : Tab w0) (hB : B = w0.heap.size) (hM : M w0 B w (x.as ++ fr)) :
    Calls Tryd.prog 63 #[.pointer (some ⟨x.gw, 0, none⟩), .int .i64 c] w fun e w' => (∃ u, e = .returned u) ∧ ∃ tm f, f.data.toList = frT (rdS d.k d.key d.v (d.ts.length + 1)) ∧ M w0 B w' ((x.go i d tm f d.kns).as ++ fr) := by
  have hvb := h.vb
  have hok := wrS_ok (step := d.ts.length) (T := T) (ver := v0) (fnd := fnd) (va := va) h.op (by have := h.nt; omega) hk (by omega) hva hfn ⟨n', hn, hlv⟩
  refine sys_go x d c i 2 0 v0 0 0 T ⟨#[]⟩ false d.rf d.kns x.V x.T x.U (fun f => f.data.toList = frT (rdS d.k d.key d.v (d.ts.length + 1))) fr w0 w B htab hB h.cl h.bs h.ds h.live h.kp (fun e => by rw [h.wt] at e; cases e) h.nd h.nt h.now
    (fun W => next_swap (wrS d.k d.key d.v d.ts.length T v0 fnd va) d.f W hf hok (unp_ne hn))
    ⟨Or.inr (Or.inl ⟨0, rfl, rfl, by omega, hv0.1, by omega, hk, ⟨n', hn⟩, h.U, hkn, rfl, rfl, rfl, rfl, rfl, Or.inr ⟨ver, h.V, fun e => hne e.symm, rfl, rfl, rfl, rfl⟩⟩)⟩
    (fun W ht => ?_) hM
  exact tell_swap_not (wrS d.k d.key d.v d.ts.length T v0 fnd va) d.f W ht hf hok (unp_ne hn) (by show (d.ts.length : Int) ≤ _; have := h.nt; omega)

theorem begin_step (x : Wd) (c : Nat) (k key v : Int) (fr : List As) (w0 w : World) (B : Nat) (htab : Tab w0) (hB : B = w0.heap.size) (hc : c < 64) (hnd : x.ds.length ≤ 100000000) (hp0 : 0 ≤ x.puts) (hp1 : x.puts ≤ 100000000) (ho : opR k key v = true) (hM : M w0 B w (x.as ++ fr)) :
    Calls Tryd.prog 31 #[.pointer (some ⟨x.gw, 0, none⟩), .int .i64 c, .agg #[.int .i64 k, .int .i64 key, .int .i64 v]] w fun e w' => (∃ u, e = .returned u) ∧ ∃ (gd kg kc : Nat) (f : ByteArray) (dv' : Value), f.data.toList = frT (rdS k key v 0) ∧ M w0 B w' (({ x with dv := dv', bs := x.bs.set c x.ds.length, puts := pu k x.puts, ds := x.ds ++ [Dd.new gd kg kc k key v f] } : Wd).as ++ fr) := by
  refine sys_begin x c k key v (fun f => f.data.toList = frT (rdS k key v 0)) fr w0 w B htab hB hc hnd hp0 hp1 (fun W ht => ?_) hM
  refine (begin_any k key v W ht).mono ?_
  rintro e w' ⟨hR, hb⟩
  rcases hR with ⟨hno, -⟩ | ⟨-, f, he, hf⟩
  · rw [ho] at hno; cases hno
  · exact ⟨⟨f, he, hf⟩, hb⟩
end Go.Proofs.YtjpgldeeopmbgaaDoor.Sap

/- WHAT IS PROVED HERE: what holds of the world at any time of a script, as long as page 0 alone is there, a leaf: what it has is the map that the operations which have ended make in the order of their Points; and that each access keeps it (no program's function is walked). Conditions: none but those named at each theorem. -/
namespace Go.Proofs.YtjpgldeeopmbgaaDoor.Sap
open Go.RowKit

/-- What took effect of the operations that have ended. -/
def tkE (ds : List Dd) : List Dn := ds.filterMap fun d => if d.en then tkD d else none
theorem tkE_split (ds : List Dd) (i : Nat) (d' : Dd) (hi : i < ds.length) : tkE (ds.set i d') = tkE (ds.take i) ++ ((if d'.en then tkD d' else none).toList ++ tkE (ds.drop (i + 1))) := by
  unfold tkE
  rw [set_split ds i d' hi, List.filterMap_append, List.filterMap_cons]
  cases h : (if d'.en then tkD d' else none) <;> rfl
theorem tkE_same (ds : List Dd) (i : Nat) (d : Dd) (hd : ds[i]? = some d) (he : d.en = false) : tkE ds = tkE (ds.take i) ++ tkE (ds.drop (i + 1)) := by
  have hi := (List.getElem?_eq_some_iff.1 hd).1
  have h1 := tkE_split ds i d hi
  rw [show ds.set i d = ds by rw [← (List.getElem?_eq_some_iff.1 hd).2, List.set_getElem_self]] at h1
  rw [h1, he]; rfl
theorem tkE_go (ds : List Dd) (i : Nat) (d d' : Dd) (hd : ds[i]? = some d) (he : d.en = false) (he' : d'.en = false) : tkE (ds.set i d') = tkE ds := by
  rw [tkE_split ds i d' (List.getElem?_eq_some_iff.1 hd).1, tkE_same ds i d hd he, he']; rfl
theorem tkE_fin (ds : List Dd) (i : Nat) (d d' : Dd) (hd : ds[i]? = some d) (he : d.en = false) (he' : d'.en = true) : (tkE ds ++ (tkD d').toList).Perm (tkE (ds.set i d')) := by
  rw [tkE_split ds i d' (List.getElem?_eq_some_iff.1 hd).1, tkE_same ds i d hd he, he', List.append_assoc]
  exact List.Perm.append_left _ List.perm_append_comm
theorem tkE_snoc (ds : List Dd) (d : Dd) (he : d.en = false) : tkE (ds ++ [d]) = tkE ds := by
  unfold tkE
  rw [List.filterMap_append]
  simp [he]
theorem tkE_all (ds : List Dd) (h : ∀ d ∈ ds, d.en = true) : tkE ds = tkL ds := by
  unfold tkE tkL
  induction ds with
  | nil => rfl
  | cons x r ih =>
    rw [List.filterMap_cons, List.filterMap_cons, h x (by simp), if_pos rfl, ih fun d hd => h d (by simp [hd])]

/-- An operation under way: it is to read the leaf, or to swap it for what it makes of it. -/
structure Live (n : Nd) (ver : Int) (d : Dd) : Prop where
  live : d.live
  st : (d.f.data.toList = frT (rdS d.k d.key d.v d.ts.length) ∧ (d.k = 1 ∨ d.k = 4 → d.ts = [])) ∨
    ((d.k = 2 ∨ d.k = 3) ∧ ∃ (T : ByteArray) (v0 : Int) (fnd : Bool) (va : Int) (n' : Nd), d.f.data.toList = frT (wrS d.k d.key d.v d.ts.length T v0 fnd va) ∧ d.kns[0]? = some v0 ∧ 0 ≤ v0 ∧ v0 ≤ ver ∧ Unp T.data.toList n' ∧ n'.lv = 0 ∧ (0 ≤ va ∧ va ≤ 9999) ∧ (fnd = false → va = 0) ∧
      (v0 = ver → n' = chN n d.k d.key (valS d.k d.v) ∧ fnd = (lmap n d.key).isSome ∧ va = (lmap n d.key).getD 0))
/-- When it took effect. -/
def Dd.at (d : Dd) : Int := d.ts[d.pt.toNat]?.getD 0
/-- A Scan's answer. -/
structure Scanned (m : Int → Option Int) (d : Dd) (n : Nd) : Prop where
  r : rightB n = true
  lv : n.lv = 0
  hi : n.hi = 10000
  lm : ∀ q, lmap n q = m q
  ks : d.ks = scK (rdS d.k d.key d.v 0) n
  vs : d.vs = scV (rdS d.k d.key d.v 0) n
  er : d.er = 0
  fd : d.fd = decide (0 < (scK (rdS d.k d.key d.v 0) n).length)
  va : d.va = (scK (rdS d.k d.key d.v 0) n).length
  pt : d.pt = 0
  cs : d.cs = [(d.v + 1, 0)]
/-- An operation that has ended. -/
structure Ended (o : List Dn) (now : Int) (d : Dd) : Prop where
  p : ∃ p : Nat, d.pt = (p : Int) ∧ p < d.ts.length
  at_lt : d.at < now
  an : (d.k = 4 ∧ ∃ n, Scanned (mapO (ahead o d.at)) d n) ∨
    (d.k ≠ 4 ∧ d.ks = [] ∧ d.vs = [] ∧ d.cs = [] ∧ ((d.er = 4 ∧ d.k = 2 ∧ d.fd = false ∧ d.va = 0) ∨ (d.er = 0 ∧ d.fd = (mapO (ahead o d.at) d.key).isSome ∧ d.va = (mapO (ahead o d.at) d.key).getD 0)))
theorem Ended.mono {o o' : List Dn} {now now' : Int} {d : Dd} (h : Ended o now d) (ha : ahead o' d.at = ahead o d.at) (hn : now ≤ now') : Ended o' now' d :=
  ⟨h.p, by have := h.at_lt; omega, by rw [ha]; exact h.an⟩

structure DdOk (n : Nd) (ver : Int) (o : List Dn) (now : Int) (d : Dd) : Prop where
  op : opR d.k d.key d.v = true
  nt : (d.ts.length : Int) ≤ now
  lt : ∀ τ ∈ d.ts, 0 ≤ τ ∧ τ < now
  kl : d.kns.length = 64
  lv : d.en = false → Live n ver d
  ed : d.en = true → Ended o now d

/-- What holds at any time. -/
structure Inv (gw : Nat) (x : Wd) (n : Nd) (t : ByteArray) (ver : Int) (o : List Dn) : Prop where
  pg : x.gw = gw
  kp : x.kp = false
  wt : x.wt = false
  ov : x.ov = .slice none 0 0
  T : x.T[0]? = some t
  un : Unp t.data.toList n
  lv : n.lv = 0
  hi : n.hi = 10000
  U : x.U[0]? = some true
  V : x.V[0]? = some ver
  vb : 0 ≤ ver ∧ ver ≤ x.now
  puts : 0 ≤ x.puts ∧ x.puts ≤ x.ds.length
  bsl : x.bs.length = 64
  bs : ∀ c, c < 64 → x.bs[c]? = some (-1) ∨ ∃ (i : Nat) (d : Dd), x.bs[c]? = some (i : Int) ∧ x.ds[i]? = some d ∧ d.en = false
  inj : ∀ (c c' i : Nat), x.bs[c]? = some (i : Int) → x.bs[c']? = some (i : Int) → c = c'
  ds : ∀ (i : Nat) (d : Dd), x.ds[i]? = some d → DdOk n ver o x.now d
  own : ∀ (i : Nat) (d : Dd), x.ds[i]? = some d → d.en = false → ∃ c, c < 64 ∧ x.bs[c]? = some (i : Int)
  os : o.Pairwise fun a b => a.t < b.t
  op : o.Perm (tkE x.ds)
  ot : ∀ e ∈ o, e.t < x.now
  om : ∀ q, mapO o q = lmap n q
  ok : ∀ e ∈ o, e.k = 2 ∨ e.k = 3

/-- An operation goes on. -/
theorem Inv.go {gw : Nat} {x : Wd} {n : Nd} {t : ByteArray} {ver : Int} {o : List Dn} (h : Inv gw x n t ver o) {i : Nat} {d : Dd} (hd : x.ds[i]? = some d) (he : d.en = false) (tm : Value) (f : ByteArray) (kns : List Int) (hk : kns.length = 64)
    (hL : Live n ver { d with tm := tm, f := f, ts := d.ts ++ [x.now], kns := kns, rf := d.rf }) : Inv gw (x.go i d tm f kns) n t ver o := by
  have hi := (List.getElem?_eq_some_iff.1 hd).1
  have hD := h.ds i d hd
  have hvb := h.vb
  refine ⟨h.pg, h.kp, h.wt, h.ov, h.T, h.un, h.lv, h.hi, h.U, h.V, ⟨hvb.1, ?_⟩, ?_, h.bsl, fun c hc => ?_, h.inj, fun j e hj => ?_, fun j e hj hen => ?_, h.os, ?_, fun e he2 => ?_, h.om, h.ok⟩
  · show ver ≤ x.now + 1; omega
  · show 0 ≤ x.puts ∧ x.puts ≤ ((x.ds.set i _).length : Int); rw [List.length_set]; exact h.puts
  · rcases h.bs c hc with h1 | ⟨j, e, h1, h2, h3⟩
    · exact Or.inl h1
    · by_cases hji : i = j
      · subst hji
        exact Or.inr ⟨i, _, h1, List.getElem?_set_self hi, he⟩
      · exact Or.inr ⟨j, e, h1, (List.getElem?_set_ne hji).trans h2, h3⟩
  · show DdOk n ver o (x.now + 1) e
    replace hj : (x.ds.set i _)[j]? = some e := hj
    by_cases hji : i = j
    · subst hji
      rw [List.getElem?_set_self hi] at hj
      cases hj
      refine ⟨hD.op, ?_, fun τ hτ => ?_, hk, fun _ => hL, fun e1 => ?_⟩
      · show ((d.ts ++ [x.now]).length : Int) ≤ x.now + 1
        rw [List.length_append, List.length_singleton]; have := hD.nt; omega
      · rcases List.mem_append.1 hτ with h1 | h1
        · have := hD.lt τ h1; omega
        · rw [List.mem_singleton] at h1; omega
      · have e2 : d.en = true := e1
        rw [he] at e2; cases e2
    · rw [List.getElem?_set_ne hji] at hj
      have hE := h.ds j e hj
      exact ⟨hE.op, by have := hE.nt; omega, fun τ hτ => by have := hE.lt τ hτ; omega, hE.kl, hE.lv, fun h1 => (hE.ed h1).mono rfl (by omega)⟩
  · replace hj : (x.ds.set i _)[j]? = some e := hj
    by_cases hji : i = j
    · subst hji; exact h.own i d hd he
    · rw [List.getElem?_set_ne hji] at hj
      exact h.own j e hj hen
  · show o.Perm (tkE (x.ds.set i _))
    have h9 := tkE_go x.ds i d { d with tm := tm, f := f, ts := d.ts ++ [x.now], kns := kns, rf := d.rf } hd he he
    rw [h9]; exact h.op
  · show e.t < x.now + 1
    have := h.ot e he2; omega

/-- An operation ends. -/
theorem Inv.fin {gw : Nat} {x : Wd} {n n' : Nd} {t t' : ByteArray} {ver ver' : Int} {o o' : List Dn} (h : Inv gw x n t ver o) {c i : Nat} {d : Dd} (hc : c < 64) (hb : x.bs[c]? = some (i : Int)) (hd : x.ds[i]? = some d) (he : d.en = false) (T : List ByteArray) (V kns : List Int) (er : Int) (fd : Bool) (va pt : Int) (ks vs : List Int) (cs : List (Int × Int)) (tm kv vv cv : Value) (hk : kns.length = 64)
    (hT : T[0]? = some t') (hun : Unp t'.data.toList n') (hlv : n'.lv = 0) (hhi : n'.hi = 10000) (hV : V[0]? = some ver') (hver : ver' = ver ∨ ver' = ver + 1)
    (hLv : ∀ e, Live n ver e → Live n' ver' e) (ho : o' = o ++ (tkD { d with tm := tm, f := ⟨#[]⟩, ts := d.ts ++ [x.now], kns := kns, rf := d.rf, en := true, er := er, fd := fd, va := va, pt := pt, kv := kv, vv := vv, cv := cv, ks := ks, vs := vs, cs := cs }).toList)
    (hot : ∀ e ∈ (tkD { d with tm := tm, f := ⟨#[]⟩, ts := d.ts ++ [x.now], kns := kns, rf := d.rf, en := true, er := er, fd := fd, va := va, pt := pt, kv := kv, vv := vv, cv := cv, ks := ks, vs := vs, cs := cs }).toList, e.t = x.now)
    (hE : Ended o' (x.now + 1) { d with tm := tm, f := ⟨#[]⟩, ts := d.ts ++ [x.now], kns := kns, rf := d.rf, en := true, er := er, fd := fd, va := va, pt := pt, kv := kv, vv := vv, cv := cv, ks := ks, vs := vs, cs := cs }) (hom : ∀ q, mapO o' q = lmap n' q) :
    Inv gw (x.fin c i d T V kns er fd va pt ks vs cs tm kv vv cv) n' t' ver' o' := by
  have hi := (List.getElem?_eq_some_iff.1 hd).1
  have hD := h.ds i d hd
  have hvb := h.vb
  have hcb : c < x.bs.length := by rw [h.bsl]; exact hc
  have hah : ∀ τ, τ < x.now → ahead o' τ = ahead o τ := fun τ hτ => by
    rw [ho]
    cases hk2 : (tkD { d with tm := tm, f := ⟨#[]⟩, ts := d.ts ++ [x.now], kns := kns, rf := d.rf, en := true, er := er, fd := fd, va := va, pt := pt, kv := kv, vv := vv, cv := cv, ks := ks, vs := vs, cs := cs }) with
    | none => simp
    | some e =>
      have := hot e (by rw [hk2]; simp)
      exact ahead_snoc o e τ (by omega)
  refine ⟨h.pg, h.kp, h.wt, h.ov, hT, hun, hlv, hhi, h.U, hV, ⟨by omega, ?_⟩, ?_, ?_, fun k hk2 => ?_, fun k k' j h1 h2 => ?_, fun j e hj => ?_, fun j e hj hen => ?_, ?_, ?_, fun e he2 => ?_, hom, fun e he2 => ?_⟩
  · show ver' ≤ x.now + 1; omega
  · show 0 ≤ x.puts ∧ x.puts ≤ ((x.ds.set i _).length : Int); rw [List.length_set]; exact h.puts
  · show (x.bs.set c (-1)).length = 64; rw [List.length_set]; exact h.bsl
  · show (x.bs.set c (-1))[k]? = some (-1) ∨ ∃ (j : Nat) (e : Dd), (x.bs.set c (-1))[k]? = some (j : Int) ∧ (x.ds.set i _)[j]? = some e ∧ e.en = false
    by_cases hkc : c = k
    · subst hkc; exact Or.inl (List.getElem?_set_self hcb)
    · rw [List.getElem?_set_ne hkc]
      rcases h.bs k hk2 with h1 | ⟨j, e, h1, h2, h3⟩
      · exact Or.inl h1
      · have hji : i ≠ j := fun e1 => hkc (h.inj c k i hb (by rw [e1]; exact h1))
        exact Or.inr ⟨j, e, h1, (List.getElem?_set_ne hji).trans h2, h3⟩
  · replace h1 : (x.bs.set c (-1))[k]? = some (j : Int) := h1
    replace h2 : (x.bs.set c (-1))[k']? = some (j : Int) := h2
    have hne : ∀ k, (x.bs.set c (-1))[k]? = some (j : Int) → c ≠ k := fun k hk2 e => by
      subst e
      rw [List.getElem?_set_self hcb] at hk2
      have := Option.some.inj hk2
      omega
    rw [List.getElem?_set_ne (hne k h1)] at h1
    rw [List.getElem?_set_ne (hne k' h2)] at h2
    exact h.inj k k' j h1 h2
  · show DdOk n' ver' o' (x.now + 1) e
    replace hj : (x.ds.set i _)[j]? = some e := hj
    by_cases hji : i = j
    · subst hji
      rw [List.getElem?_set_self hi] at hj
      cases hj
      refine ⟨hD.op, ?_, fun τ hτ => ?_, hk, fun e1 => Bool.noConfusion e1, fun _ => hE⟩
      · show ((d.ts ++ [x.now]).length : Int) ≤ x.now + 1
        rw [List.length_append, List.length_singleton]; have := hD.nt; omega
      · rcases List.mem_append.1 hτ with h1 | h1
        · have := hD.lt τ h1; omega
        · rw [List.mem_singleton] at h1; omega
    · rw [List.getElem?_set_ne hji] at hj
      have hF := h.ds j e hj
      exact ⟨hF.op, by have := hF.nt; omega, fun τ hτ => by have := hF.lt τ hτ; omega, hF.kl, fun h1 => hLv e (hF.lv h1), fun h1 => (hF.ed h1).mono (hah _ (hF.ed h1).at_lt) (by omega)⟩
  · replace hj : (x.ds.set i _)[j]? = some e := hj
    show ∃ k, k < 64 ∧ (x.bs.set c (-1))[k]? = some (j : Int)
    by_cases hji : i = j
    · subst hji
      rw [List.getElem?_set_self hi] at hj
      cases hj
      cases hen
    · rw [List.getElem?_set_ne hji] at hj
      obtain ⟨k, hk1, hk2⟩ := h.own j e hj hen
      refine ⟨k, hk1, ?_⟩
      have hkc : c ≠ k := fun e1 => by
        subst e1
        rw [hb] at hk2
        have := Option.some.inj hk2
        omega
      rw [List.getElem?_set_ne hkc]; exact hk2
  · rw [ho, List.pairwise_append]
    refine ⟨h.os, ?_, fun a ha b hb2 => by have := h.ot a ha; have := hot b hb2; omega⟩
    cases (tkD { d with tm := tm, f := ⟨#[]⟩, ts := d.ts ++ [x.now], kns := kns, rf := d.rf, en := true, er := er, fd := fd, va := va, pt := pt, kv := kv, vv := vv, cv := cv, ks := ks, vs := vs, cs := cs }) <;> simp
  · show o'.Perm (tkE (x.ds.set i _))
    rw [ho]
    exact (List.Perm.append_right _ h.op).trans (tkE_fin x.ds i d _ hd he rfl)
  · show e.t < x.now + 1
    rw [ho] at he2
    rcases List.mem_append.1 he2 with h1 | h1
    · have := h.ot e h1; omega
    · have := hot e h1; omega
  · rw [ho] at he2
    rcases List.mem_append.1 he2 with h1 | h1
    · exact h.ok e h1
    · rw [Option.mem_toList] at h1
      unfold tkD at h1
      split at h1
      next h2 => cases h1; exact h2.1
      next => cases h1
end Go.Proofs.YtjpgldeeopmbgaaDoor.Sap
