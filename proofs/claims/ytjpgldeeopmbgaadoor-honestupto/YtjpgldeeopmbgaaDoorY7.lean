/- WHAT IS PROVED HERE: over the program at this commit scripts are played as over a machine (Mc): each access and each beginning keeps what holds at any time (Inv), and who moves comes nearer to the end. Conditions: the numbers are small. -/
import Derived.Test.YtjpgldeeopmbgaaDoorY6
namespace Go.Proofs.YtjpgldeeopmbgaaDoor.Sap
open Go.RowKit

theorem nb_ge (n : Int) : 2 ≤ (nb n).length := by
  have h : 1 ≤ (Lib.itoa n).length := by
    obtain ⟨xs, c, hx, -⟩ := dec_cases n.toNat
    obtain ⟨ys, c2, hy, -⟩ := dec_cases (-n).toNat
    unfold Lib.itoa
    split
    · simp
    · rw [hx]; simp
  simp [nb]; omega
theorem nb_zero : (nb 0).length = 2 := by
  have h : (Lib.itoa 0).length = 1 := by
    unfold Lib.itoa
    rw [if_neg (by decide)]
    show (Lib.decDigits 0).length = 1
    rw [Lib.decDigits]
    rfl
  simp [nb, h]
theorem wr_ne_rd {k key v : Int} {step : Nat} {T : ByteArray} {v0 va : Int} {fnd : Bool} (hT : 1 ≤ T.size) : frT (wrS k key v step T v0 fnd va) ≠ frT (rdS k key v step) := by
  intro e
  have h := congrArg List.length e
  simp only [frT, wrS, rdS, List.length_append] at h
  have h1 := nb_ge v0
  have h2 := nb_ge (fl fnd)
  have h3 := nb_ge va
  have h4 := nb_ge (T.size : Int)
  have h5 := nb_zero
  have h6 : (nb (fl false)).length = 2 := nb_zero
  have h7 : (nb ((⟨#[]⟩ : ByteArray).size : Int)).length = 2 := nb_zero
  have h8 : (⟨#[]⟩ : ByteArray).data.toList.length = 0 := rfl
  have h9 := ba_size T
  have h10 : ([] : List UInt8).length = 0 := rfl
  have h11 : ((⟨#[]⟩ : ByteArray).size : Int) = 0 := rfl
  simp only [h11] at h
  omega

/-- How far a client is from its end, if it moves alone. -/
def rkI (c : Nat) (x : Wd) : Nat :=
  match x.bs[c]? with
  | some b => match x.ds[b.toNat]? with
    | some d => if d.f.data.toList = frT (rdS d.k d.key d.v d.ts.length) then 2 else if d.kns[0]? = x.V[0]? then 1 else 3
    | none => 0
  | none => 0
theorem rkI_at {x : Wd} {c i : Nat} {d : Dd} (hb : x.bs[c]? = some (i : Int)) (hd : x.ds[i]? = some d) : rkI c x = if d.f.data.toList = frT (rdS d.k d.key d.v d.ts.length) then 2 else if d.kns[0]? = x.V[0]? then 1 else 3 := by
  unfold rkI
  rw [hb]
  simp only [Int.toNat_natCast, hd]

theorem Inv.pre {gw : Nat} {x : Wd} {n : Nd} {t : ByteArray} {ver : Int} {o : List Dn} (h : Inv gw x n t ver o) {c i : Nat} {d : Dd} (hc : c < 64) (hb : x.bs[c]? = some (i : Int)) (hd : x.ds[i]? = some d) (he : d.en = false) (hn : x.now ≤ 90000000) (hnd : x.ds.length ≤ 100000000) : Pre x c i d n t ver :=
  ⟨hc, hb, hd, ((h.ds i d hd).lv he).live, h.kp, h.wt, hnd, by have := (h.ds i d hd).nt; omega, ⟨by have := h.vb; omega, by omega⟩, (h.ds i d hd).op, h.T, h.un, h.lv, h.hi, h.U, h.V, ⟨h.vb.1, by have := h.vb; omega⟩⟩

/-- What the mover's access did. -/
def Eff (x : Wd) (c i : Nat) (d : Dd) (n : Nd) (x' : Wd) (n' : Nd) : Prop := ∃ d' : Dd, x'.ds[i]? = some d' ∧ d'.k = d.k ∧ d'.key = d.key ∧ d'.v = d.v ∧ d'.ts = d.ts ++ [x.now] ∧
  ((x'.bs[c]? = some (i : Int) ∧ d'.en = false ∧ n' = n) ∨ (x'.bs[c]? = some (-1) ∧ d'.en = true ∧
    ((d'.er = 4 ∧ d.k = 2 ∧ lmap n d.key = none ∧ 5 ≤ n.ks.length ∧ n' = n) ∨
      (d'.er = 0 ∧ d.k ≠ 4 ∧ d'.fd = (lmap n d.key).isSome ∧ d'.va = (lmap n d.key).getD 0 ∧ (d.k = 1 → d'.pt = 0) ∧ ∀ q, lmap n' q = upd d.k d.key d.v (lmap n) q) ∨
      (d'.er = 0 ∧ d.k = 4 ∧ n' = n ∧ d'.fd = decide (0 < (scK (rdS d.k d.key d.v 0) n).length) ∧ d'.va = (scK (rdS d.k d.key d.v 0) n).length))))
/-- What a move leaves. -/
def MvR (gw c : Nat) (x x' : Wd) (i : Nat) (d : Dd) (n : Nd) : Prop := ∃ n' t' ver' o', Inv gw x' n' t' ver' o' ∧ Nx c x x' ∧ (x'.bs[c]? = some (-1) ∨ rkI c x' < rkI c x) ∧ Eff x c i d n x' n'
theorem nx_go (x : Wd) (c i : Nat) (d : Dd) (tm : Value) (f : ByteArray) (kns : List Int) : Nx c x (x.go i d tm f kns) := ⟨rfl, by show (x.ds.set i _).length = _; rw [List.length_set], fun _ _ => rfl⟩
theorem nx_fin (x : Wd) (c i : Nat) (d : Dd) (T : List ByteArray) (V kns : List Int) (er : Int) (fd : Bool) (va pt : Int) (ks vs : List Int) (cs : List (Int × Int)) (tm kv vv cv : Value) : Nx c x (x.fin c i d T V kns er fd va pt ks vs cs tm kv vv cv) :=
  ⟨rfl, by show (x.ds.set i _).length = _; rw [List.length_set], fun j hj => List.getElem?_set_ne (fun e => hj e.symm)⟩

theorem at_now (ts : List Int) (now : Int) : (ts ++ [now])[ts.length]?.getD 0 = now := by simp

set_option maxHeartbeats 800000 in
theorem Inv.move {gw : Nat} {x : Wd} {n : Nd} {t : ByteArray} {ver : Int} {o : List Dn} (h : Inv gw x n t ver o) {c i : Nat} {d : Dd} (hc : c < 64) (hb : x.bs[c]? = some (i : Int)) (hd : x.ds[i]? = some d) (hn : x.now ≤ 90000000) (hnd : x.ds.length ≤ 100000000) (fr : List As) (w0 w : World) (B : Nat) (htab : Tab w0) (hB : B = w0.heap.size) (hM : M w0 B w (x.as ++ fr)) :
    Calls Tryd.prog 63 #[.pointer (some ⟨x.gw, 0, none⟩), .int .i64 c] w fun e w' => (∃ u, e = .returned u) ∧ ∃ x', MvR gw c x x' i d n ∧ M w0 B w' (x'.as ++ fr) := by
  have he : d.en = false := by
    rcases h.bs c hc with h1 | ⟨j, e, h1, h2, h3⟩
    · rw [hb] at h1; have := Option.some.inj h1; omega
    · obtain rfl : i = j := by rw [hb] at h1; have := Option.some.inj h1; omega
      rw [hd] at h2; cases h2; exact h3
  have hP := h.pre hc hb hd he hn hnd
  have hD := h.ds i d hd
  have hL := hD.lv he
  have hcb : c < x.bs.length := by rw [h.bsl]; exact hc
  have h9 := opR_parts hD.op
  have hkl : (d.kns.set 0 ver).length = 64 := by rw [List.length_set]; exact hD.kl
  have hfinb : ∀ T V kns er fd va pt ks vs cs tm kv vv cv, (x.fin c i d T V kns er fd va pt ks vs cs tm kv vv cv).bs[c]? = some (-1) := fun _ _ _ _ _ _ _ _ _ _ _ _ _ _ => List.getElem?_set_self hcb
  have hall : ahead o x.now = o := ahead_all o x.now h.ot
  have hil := (List.getElem?_eq_some_iff.1 hd).1
  have hupd1 : ∀ q, d.k = 1 → lmap n q = upd d.k d.key d.v (lmap n) q := fun q e => by unfold upd; rw [if_neg (by omega : ¬ d.k = 2), if_neg (by omega : ¬ d.k = 3)]; split <;> rfl
  rcases hL.st with ⟨hf, hts⟩ | ⟨hk, T, v0, fnd, va, n', hf, hkn, hv0, hv1, hun, hlv, hva, hfn, hcur⟩
  · have hrk : rkI c x = 2 := by rw [rkI_at hb hd, if_pos hf]
    by_cases hk1 : d.k = 1
    · have hts0 := hts (Or.inl hk1)
      refine (step_get hP hk1 hts0 hf fr w0 w B htab hB hM).mono ?_
      rintro e w' ⟨hu, tm, kv, vv, cv, hM'⟩
      refine ⟨hu, _, ⟨n, t, ver, o, h.fin hc hb hd he _ _ _ _ _ _ _ _ _ _ tm kv vv cv hkl h.T h.un h.lv h.hi h.V (Or.inl rfl) (fun _ h1 => h1) ?_ ?_ ?_ h.om, nx_fin .., Or.inl (hfinb ..), ⟨_, List.getElem?_set_self hil, rfl, rfl, rfl, rfl, Or.inr ⟨hfinb .., rfl, Or.inr (Or.inl ⟨rfl, by omega, rfl, rfl, fun _ => rfl, fun q => hupd1 q hk1⟩)⟩⟩⟩, hM'⟩
      · simp [tkD, hk1]
      · simp [tkD, hk1]
      · refine ⟨⟨0, rfl, by simp⟩, ?_, Or.inr ⟨by show d.k ≠ 4; omega, rfl, rfl, rfl, Or.inr ⟨rfl, ?_, ?_⟩⟩⟩
        · show (d.ts ++ [x.now])[(0 : Int).toNat]?.getD 0 < x.now + 1
          rw [hts0]; simp; omega
        · show (lmap n d.key).isSome = (mapO (ahead o ((d.ts ++ [x.now])[(0 : Int).toNat]?.getD 0)) d.key).isSome
          rw [hts0]
          show _ = (mapO (ahead o x.now) d.key).isSome
          rw [hall, h.om]
        · show (lmap n d.key).getD 0 = (mapO (ahead o ((d.ts ++ [x.now])[(0 : Int).toNat]?.getD 0)) d.key).getD 0
          rw [hts0]
          show _ = (mapO (ahead o x.now) d.key).getD 0
          rw [hall, h.om]
    · by_cases hk4 : d.k = 4
      · have hts0 := hts (Or.inr hk4)
        have hl0 : d.ts.length = 0 := by rw [hts0]; rfl
        refine (step_scan hP hk4 hts0 hf fr w0 w B htab hB hM).mono ?_
        rintro e w' ⟨hu, tm, kv, vv, cv, hM'⟩
        refine ⟨hu, _, ⟨n, t, ver, o, h.fin hc hb hd he _ _ _ _ _ _ _ _ _ _ tm kv vv cv hkl h.T h.un h.lv h.hi h.V (Or.inl rfl) (fun _ h1 => h1) ?_ ?_ ?_ h.om, nx_fin .., Or.inl (hfinb ..), ⟨_, List.getElem?_set_self hil, rfl, rfl, rfl, rfl, Or.inr ⟨hfinb .., rfl, Or.inr (Or.inr ⟨rfl, hk4, rfl, by show decide (0 < (scK (rdS d.k d.key d.v d.ts.length) n).length) = _; rw [hl0], by show ((scK (rdS d.k d.key d.v d.ts.length) n).length : Int) = _; rw [hl0]⟩)⟩⟩⟩, hM'⟩
        · simp [tkD, hk4]
        · simp [tkD, hk4]
        · refine ⟨⟨0, rfl, by simp⟩, ?_, Or.inl ⟨hk4, n, ⟨h.un.1, h.lv, h.hi, fun q => ?_, ?_, ?_, rfl, ?_, ?_, rfl, rfl⟩⟩⟩
          · show (d.ts ++ [x.now])[(0 : Int).toNat]?.getD 0 < x.now + 1
            rw [hts0]; simp; omega
          · show lmap n q = mapO (ahead o ((d.ts ++ [x.now])[(0 : Int).toNat]?.getD 0)) q
            rw [hts0]
            show _ = mapO (ahead o x.now) q
            rw [hall, h.om]
          · show scK (rdS d.k d.key d.v d.ts.length) n = _; rw [hl0]
          · show scV (rdS d.k d.key d.v d.ts.length) n = _; rw [hl0]
          · show decide (0 < (scK (rdS d.k d.key d.v d.ts.length) n).length) = _; rw [hl0]
          · show ((scK (rdS d.k d.key d.v d.ts.length) n).length : Int) = _; rw [hl0]
      · have hk23 : d.k = 2 ∨ d.k = 3 := by omega
        have hatn : ∀ m : Int → Option Int, (d.ts ++ [x.now])[((d.ts.length : Nat) : Int).toNat]?.getD 0 = x.now := fun _ => by rw [Int.toNat_natCast]; exact at_now _ _
        by_cases hch : (lmap n d.key).isSome = true ∨ (d.k = 2 ∧ n.ks.length < 5)
        · refine (step_change hP hk23 hch hf fr w0 w B htab hB hM).mono ?_
          rintro e w' ⟨hu, tm, f, ⟨T, hT, hfT⟩, hM'⟩
          have hkn0 : (d.kns.set 0 ver)[0]? = some ver := List.getElem?_set_self (by rw [hD.kl]; omega)
          have hlr := lmap_rng h.un.1 h.lv d.key
          have hlv' : Live n ver { d with tm := tm, f := f, ts := d.ts ++ [x.now], kns := d.kns.set 0 ver, rf := d.rf } := by
            refine ⟨hL.live, Or.inr ⟨hk23, T, ver, (lmap n d.key).isSome, (lmap n d.key).getD 0, chN n d.k d.key (valS d.k d.v), ?_, hkn0, h.vb.1, Int.le_refl _, hT, h.lv, hlr, fun e1 => ?_, fun _ => ⟨rfl, rfl, rfl⟩⟩⟩
            · show f.data.toList = frT (wrS d.k d.key d.v (d.ts ++ [x.now]).length T ver _ _)
              rw [List.length_append, List.length_singleton]; exact hfT
            · cases h2 : lmap n d.key with
              | none => rfl
              | some u => rw [h2] at e1; cases e1
          refine ⟨hu, _, ⟨n, t, ver, o, h.go hd he tm f _ hkl hlv', nx_go .., Or.inr ?_, ⟨_, List.getElem?_set_self hil, rfl, rfl, rfl, rfl, Or.inl ⟨hb, he, rfl⟩⟩⟩, hM'⟩
          have hd' : (x.go i d tm f (d.kns.set 0 ver)).ds[i]? = some { d with tm := tm, f := f, ts := d.ts ++ [x.now], kns := d.kns.set 0 ver, rf := d.rf } := List.getElem?_set_self (List.getElem?_eq_some_iff.1 hd).1
          rw [rkI_at (x := x.go i d tm f (d.kns.set 0 ver)) hb hd', hrk, if_neg, if_pos]
          · omega
          · show (d.kns.set 0 ver)[0]? = x.V[0]?
            rw [hkn0, h.V]
          · show ¬ f.data.toList = frT (rdS d.k d.key d.v (d.ts ++ [x.now]).length)
            rw [List.length_append, List.length_singleton, hfT]
            exact wr_ne_rd (unp_size ⟨_, hT⟩).1
        · have hno : lmap n d.key = none := by
            cases h2 : lmap n d.key with
            | none => rfl
            | some u => exact absurd (Or.inl (by rw [h2]; rfl)) hch
          rcases hk23 with hk2 | hk3
          · have h5 : 5 ≤ n.ks.length := by
              rcases Nat.lt_or_ge n.ks.length 5 with h6 | h6
              · exact absurd (Or.inr ⟨hk2, h6⟩) hch
              · exact h6
            refine (step_full hP hk2 hno h5 hf fr w0 w B htab hB hM).mono ?_
            rintro e w' ⟨hu, tm, kv, vv, cv, hM'⟩
            refine ⟨hu, _, ⟨n, t, ver, o, h.fin hc hb hd he _ _ _ _ _ _ _ _ _ _ tm kv vv cv hkl h.T h.un h.lv h.hi h.V (Or.inl rfl) (fun _ h1 => h1) ?_ ?_ ?_ h.om, nx_fin .., Or.inl (hfinb ..), ⟨_, List.getElem?_set_self hil, rfl, rfl, rfl, rfl, Or.inr ⟨hfinb .., rfl, Or.inl ⟨rfl, hk2, hno, h5, rfl⟩⟩⟩⟩, hM'⟩
            · simp [tkD]
            · simp [tkD]
            · refine ⟨⟨0, rfl, by simp⟩, ?_, Or.inr ⟨hk4, rfl, rfl, rfl, Or.inl ⟨rfl, hk2, rfl, rfl⟩⟩⟩
              show (d.ts ++ [x.now])[(0 : Int).toNat]?.getD 0 < x.now + 1
              cases h3 : d.ts with
              | nil => simp; omega
              | cons y r =>
                have := hD.lt y (by rw [h3]; simp)
                simp; omega
          · have hmq : ∀ q, lmap n q = upd d.k d.key d.v (lmap n) q := fun q => by
              unfold upd
              by_cases hq : q = d.key
              · rw [if_pos hq, if_neg (show ¬ d.k = 2 by omega), if_pos hk3, hq, hno]
              · rw [if_neg hq]
            refine (step_dropno hP hk3 hno hf fr w0 w B htab hB hM).mono ?_
            rintro e w' ⟨hu, tm, kv, vv, cv, hM'⟩
            refine ⟨hu, _, ⟨n, t, ver, o ++ [⟨x.now, d.k, d.key, d.v⟩], h.fin hc hb hd he _ _ _ _ _ _ _ _ _ _ tm kv vv cv hkl h.T h.un h.lv h.hi h.V (Or.inl rfl) (fun _ h1 => h1) ?_ ?_ ?_ fun q => ?_, nx_fin .., Or.inl (hfinb ..), ⟨_, List.getElem?_set_self hil, rfl, rfl, rfl, rfl, Or.inr ⟨hfinb .., rfl, Or.inr (Or.inl ⟨rfl, hk4, by rw [hno]; rfl, by rw [hno]; rfl, fun e1 => absurd e1 hk1, hmq⟩)⟩⟩⟩, hM'⟩
            · simp [tkD, hk3]
            · simp [tkD, hk3]
            · refine ⟨⟨d.ts.length, rfl, by simp⟩, ?_, Or.inr ⟨hk4, rfl, rfl, rfl, Or.inr ⟨rfl, ?_, ?_⟩⟩⟩
              · show (d.ts ++ [x.now])[((d.ts.length : Nat) : Int).toNat]?.getD 0 < x.now + 1
                rw [hatn (mapO o)]; omega
              · show false = (mapO (ahead (o ++ [⟨x.now, d.k, d.key, d.v⟩]) ((d.ts ++ [x.now])[((d.ts.length : Nat) : Int).toNat]?.getD 0)) d.key).isSome
                rw [hatn (mapO o), ahead_snoc _ _ _ (Int.le_refl _), hall, h.om, hno]; rfl
              · show 0 = (mapO (ahead (o ++ [⟨x.now, d.k, d.key, d.v⟩]) ((d.ts ++ [x.now])[((d.ts.length : Nat) : Int).toNat]?.getD 0)) d.key).getD 0
                rw [hatn (mapO o), ahead_snoc _ _ _ (Int.le_refl _), hall, h.om, hno]; rfl
            · rw [mapO_snoc, hmq q]
              unfold upd
              rw [h.om q]
  · have hnr : ¬ d.f.data.toList = frT (rdS d.k d.key d.v d.ts.length) := by rw [hf]; exact wr_ne_rd (unp_size ⟨_, hun⟩).1
    by_cases hvv : v0 = ver
    · subst hvv
      obtain ⟨hn', hfd, hvl⟩ := hcur rfl
      have hT0 : 0 < x.T.length := (List.getElem?_eq_some_iff.1 h.T).1
      have hV0 : 0 < x.V.length := (List.getElem?_eq_some_iff.1 h.V).1
      have hk4 : d.k ≠ 4 := by omega
      have hatn : (d.ts ++ [x.now])[((d.ts.length : Nat) : Int).toNat]?.getD 0 = x.now := by rw [Int.toNat_natCast]; exact at_now _ _
      have hmq : ∀ q, lmap n' q = upd d.k d.key d.v (lmap n) q := fun q => by
        have hb2 := right_bd n h.un.1
        have hr6 := h.un.1
        unfold rightB at hr6
        simp only [Bool.and_eq_true, decide_eq_true_eq] at hr6
        rw [hn']
        show look ((chK n d.k d.key).zip (chV n d.k d.key (valS d.k d.v))) q = _
        rw [ch_look n d.k d.key (valS d.k d.v) hb2.2.2.2.1 (fun y hy => ⟨(hb2.2.2.2.2.2.2.1 y hy).1, (keysOk_all _ _ _ hr6.2.2.2.2.2.1 y hy).2⟩) hk]
        unfold upd
        by_cases hq : q = d.key
        · rw [if_pos hq, if_pos hq]
          rcases hk with hk | hk
          · rw [if_pos hk, if_pos hk]
            unfold valS
            rw [if_neg (by omega)]
          · rw [if_neg (by omega), if_pos hk, if_neg (by omega), if_pos hk]
        · rw [if_neg hq, if_neg hq]; rfl
      refine (step_done hP hk hun hlv hva hfn hkn hf fr w0 w B htab hB hM).mono ?_
      rintro e w' ⟨hu, tm, kv, vv, cv, hM'⟩
      refine ⟨hu, _, ⟨n', T, v0 + 1, o ++ [⟨x.now, d.k, d.key, d.v⟩], h.fin hc hb hd he _ _ _ _ _ _ _ _ _ _ tm kv vv cv (by rw [List.length_set]; exact hD.kl) (List.getElem?_set_self hT0) hun hlv (by rw [hn']; exact h.hi) (List.getElem?_set_self hV0) (Or.inr rfl) (fun e1 h1 => ?_) ?_ ?_ ?_ fun q => ?_, nx_fin .., Or.inl (hfinb ..), ⟨_, List.getElem?_set_self hil, rfl, rfl, rfl, rfl, Or.inr ⟨hfinb .., rfl, Or.inr (Or.inl ⟨rfl, hk4, hfd, hvl, fun e1 => by omega, hmq⟩)⟩⟩⟩, hM'⟩
      · refine ⟨h1.live, ?_⟩
        rcases h1.st with h2 | ⟨a1, a2, a3, a4, a5, a6, b1, b2, b3, b4, b5, b6, b7, b8, b9⟩
        · exact Or.inl h2
        · exact Or.inr ⟨a1, a2, a3, a4, a5, a6, b1, b2, b3, by omega, b5, b6, b7, b8, fun e2 => by omega⟩
      · simp only [tkD]
        rw [if_pos ⟨hk, trivial⟩, hatn]; rfl
      · intro e2 he2
        simp only [tkD] at he2
        rw [if_pos ⟨hk, trivial⟩, hatn, Option.mem_toList] at he2
        cases he2; rfl
      · refine ⟨⟨d.ts.length, rfl, by simp⟩, ?_, Or.inr ⟨hk4, rfl, rfl, rfl, Or.inr ⟨rfl, ?_, ?_⟩⟩⟩
        · show (d.ts ++ [x.now])[((d.ts.length : Nat) : Int).toNat]?.getD 0 < x.now + 1
          rw [hatn]; omega
        · show fnd = (mapO (ahead (o ++ [⟨x.now, d.k, d.key, d.v⟩]) ((d.ts ++ [x.now])[((d.ts.length : Nat) : Int).toNat]?.getD 0)) d.key).isSome
          rw [hatn, ahead_snoc _ _ _ (Int.le_refl _), hall, h.om]; exact hfd
        · show va = (mapO (ahead (o ++ [⟨x.now, d.k, d.key, d.v⟩]) ((d.ts ++ [x.now])[((d.ts.length : Nat) : Int).toNat]?.getD 0)) d.key).getD 0
          rw [hatn, ahead_snoc _ _ _ (Int.le_refl _), hall, h.om]; exact hvl
      · rw [mapO_snoc, hmq q]
        unfold upd
        rw [h.om q]
    · have hrk : rkI c x = 3 := by
        rw [rkI_at hb hd, if_neg hnr, if_neg]
        rw [hkn, h.V]; exact fun e => hvv (Option.some.inj e)
      refine (step_not hP hk hun hlv hva hfn hkn ⟨hv0, hv1⟩ hvv hf fr w0 w B htab hB hM).mono ?_
      rintro e w' ⟨hu, tm, f, hfT, hM'⟩
      have hlv' : Live n ver { d with tm := tm, f := f, ts := d.ts ++ [x.now], kns := d.kns, rf := d.rf } := by
        refine ⟨hL.live, Or.inl ⟨?_, fun e1 => ?_⟩⟩
        · show f.data.toList = frT (rdS d.k d.key d.v (d.ts ++ [x.now]).length)
          rw [List.length_append, List.length_singleton]; exact hfT
        · have e2 : d.k = 1 ∨ d.k = 4 := e1
          omega
      refine ⟨hu, _, ⟨n, t, ver, o, h.go hd he tm f _ hD.kl hlv', nx_go .., Or.inr ?_, ⟨_, List.getElem?_set_self hil, rfl, rfl, rfl, rfl, Or.inl ⟨hb, he, rfl⟩⟩⟩, hM'⟩
      have hd' : (x.go i d tm f d.kns).ds[i]? = some { d with tm := tm, f := f, ts := d.ts ++ [x.now], kns := d.kns, rf := d.rf } := List.getElem?_set_self (List.getElem?_eq_some_iff.1 hd).1
      rw [rkI_at (x := x.go i d tm f d.kns) hb hd', hrk, if_pos]
      · omega
      · show f.data.toList = frT (rdS d.k d.key d.v (d.ts ++ [x.now]).length)
        rw [List.length_append, List.length_singleton]; exact hfT
end Go.Proofs.YtjpgldeeopmbgaaDoor.Sap
