/- WHAT IS PROVED HERE: over the program at this commit scripts are played as over a machine (Mc): each access and each beginning keeps what holds at any time (Inv), and who moves comes nearer to the end. Conditions: the numbers are small. -/
import Derived.Test.YtjpgldeeopmbgaaDoorXY4Y6
import Derived.Test.YtjpgldeeopmbgaaDoorXJ1J4
namespace Go.Proofs.YtjpgldeeopmbgaaDoor.Sap
open Go.RowKit

theorem nb_ge (n : Int) : 2 ≤ (nb n).length := by
  have h : 1 ≤ (Lib.itoa n).length := by
    obtain ⟨xs, c, hx, -⟩ := dec_cases n.toNat
    obtain ⟨ys, c2, hy, -⟩ := dec_cases (-n).toNat
    unfold Lib.itoa
    split
    · simp
    · rw [hx]; simp
  simp [nb]; omega
theorem nb_zero : (nb 0).length = 2 := by
  have h : (Lib.itoa 0).length = 1 := by
    unfold Lib.itoa
    rw [if_neg (by decide)]
    show (Lib.decDigits 0).length = 1
    rw [Lib.decDigits]
    rfl
  simp [nb, h]
theorem wr_ne_rd {k key v : Int} {step : Nat} {T : ByteArray} {v0 va : Int} {fnd : Bool} (hT : 1 ≤ T.size) : frT (wrS k key v step T v0 fnd va) ≠ frT (rdS k key v step) := by
  intro e
  have h := congrArg List.length e
  simp only [frT, wrS, rdS, List.length_append] at h
  have h1 := nb_ge v0
  have h2 := nb_ge (fl fnd)
  have h3 := nb_ge va
  have h4 := nb_ge (T.size : Int)
  have h5 := nb_zero
  have h6 : (nb (fl false)).length = 2 := nb_zero
  have h7 : (nb ((⟨#[]⟩ : ByteArray).size : Int)).length = 2 := nb_zero
  have h8 : (⟨#[]⟩ : ByteArray).data.toList.length = 0 := rfl
  have h9 := ba_size T
  have h10 : ([] : List UInt8).length = 0 := rfl
  have h11 : ((⟨#[]⟩ : ByteArray).size : Int) = 0 := rfl
  simp only [h11] at h
  omega

/-- How far a client is from its end, if it moves alone. -/
def rkI (c : Nat) (x : Wd) : Nat :=
  match x.bs[c]? with
  | some b => match x.ds[b.toNat]? with
    | some d => if d.f.data.toList = frT (rdS d.k d.key d.v d.ts.length) then 2 else if d.kns[0]? = x.V[0]? then 1 else 3
    | none => 0
  | none => 0
theorem rkI_at {x : Wd} {c i : Nat} {d : Dd} (hb : x.bs[c]? = some (i : Int)) (hd : x.ds[i]? = some d) : rkI c x = if d.f.data.toList = frT (rdS d.k d.key d.v d.ts.length) then 2 else if d.kns[0]? = x.V[0]? then 1 else 3 := by
  unfold rkI
  rw [hb]
  simp only [Int.toNat_natCast, hd]

theorem Inv.pre {gw : Nat} {x : Wd} {n : Nd} {t : ByteArray} {ver : Int} {o : List Dn} (h : Inv gw x n t ver o) {c i : Nat} {d : Dd} (hc : c < 64) (hb : x.bs[c]? = some (i : Int)) (hd : x.ds[i]? = some d) (he : d.en = false) (hn : x.now ≤ 90000000) (hnd : x.ds.length ≤ 100000000) : Pre x c i d n t ver :=
  ⟨hc, hb, hd, ((h.ds i d hd).lv he).live, h.kp, h.wt, hnd, by have := (h.ds i d hd).nt; omega, ⟨by have := h.vb; omega, by omega⟩, (h.ds i d hd).op, h.T, h.un, h.lv, h.hi, h.U, h.V, ⟨h.vb.1, by have := h.vb; omega⟩⟩

/-- What the mover's access did. -/
def Eff (x : Wd) (c i : Nat) (d : Dd) (n : Nd) (x' : Wd) (n' : Nd) : Prop := ∃ d' : Dd, x'.ds[i]? = some d' ∧ d'.k = d.k ∧ d'.key = d.key ∧ d'.v = d.v ∧ d'.ts = d.ts ++ [x.now] ∧
  ((x'.bs[c]? = some (i : Int) ∧ d'.en = false ∧ n' = n) ∨ (x'.bs[c]? = some (-1) ∧ d'.en = true ∧
    ((d'.er = 4 ∧ d.k = 2 ∧ lmap n d.key = none ∧ 5 ≤ n.ks.length ∧ n' = n) ∨
      (d'.er = 0 ∧ d.k ≠ 4 ∧ d'.fd = (lmap n d.key).isSome ∧ d'.va = (lmap n d.key).getD 0 ∧ (d.k = 1 → d'.pt = 0) ∧ ∀ q, lmap n' q = upd d.k d.key d.v (lmap n) q) ∨
      (d'.er = 0 ∧ d.k = 4 ∧ n' = n ∧ d'.fd = decide (0 < (scK (rdS d.k d.key d.v 0) n).length) ∧ d'.va = (scK (rdS d.k d.key d.v 0) n).length))))
/-- What a move leaves. -/
def MvR (gw c : Nat) (x x' : Wd) (i : Nat) (d : Dd) (n : Nd) : Prop := ∃ n' t' ver' o', Inv gw x' n' t' ver' o' ∧ Nx c x x' ∧ (x'.bs[c]? = some (-1) ∨ rkI c x' < rkI c x) ∧ Eff x c i d n x' n'
theorem nx_go (x : Wd) (c i : Nat) (d : Dd) (tm : Value) (f : ByteArray) (kns : List Int) : Nx c x (x.go i d tm f kns) := ⟨rfl, by show (x.ds.set i _).length = _; rw [List.length_set], fun _ _ => rfl⟩
theorem nx_fin (x : Wd) (c i : Nat) (d : Dd) (T : List ByteArray) (V kns : List Int) (er : Int) (fd : Bool) (va pt : Int) (ks vs : List Int) (cs : List (Int × Int)) (tm kv vv cv : Value) : Nx c x (x.fin c i d T V kns er fd va pt ks vs cs tm kv vv cv) :=
  ⟨rfl, by show (x.ds.set i _).length = _; rw [List.length_set], fun j hj => List.getElem?_set_ne (fun e => hj e.symm)⟩

theorem at_now (ts : List Int) (now : Int) : (ts ++ [now])[ts.length]?.getD 0 = now := by simp

set_option maxHeartbeats 800000 in
theorem Inv.move {gw : Nat} {x : Wd} {n : Nd} {t : ByteArray} {ver : Int} {o : List Dn} (h : Inv gw x n t ver o) {c i : Nat} {d : Dd} (hc : c < 64) (hb : x.bs[c]? = some (i : Int)) (hd : x.ds[i]? = some d) (hn : x.now ≤ 90000000) (hnd : x.ds.length ≤ 100000000) (fr : List As) (w0 w : World) (B : Nat) (htab : Tab w0) (hB : B = w0.heap.size) (hM : M w0 B w (x.as ++ fr)) :
    Calls Tryd.prog 63 #[.pointer (some ⟨x.gw, 0, none⟩), .int .i64 c] w fun e w' => (∃ u, e = .returned u) ∧ ∃ x', MvR gw c x x' i d n ∧ M w0 B w' (x'.as ++ fr) := by
  have he : d.en = false := by
    rcases h.bs c hc with h1 | ⟨j, e, h1, h2, h3⟩
    · rw [hb] at h1; have := Option.some.inj h1; omega
    · obtain rfl : i = j := by rw [hb] at h1; have := Option.some.inj h1; omega
      rw [hd] at h2; cases h2; exact h3
  have hP := h.pre hc hb hd he hn hnd
  have hD := h.ds i d hd
  have hL := hD.lv he
  have hcb : c < x.bs.length := by rw [h.bsl]; exact hc
  have h9 := opR_parts hD.op
  have hkl : (d.kns.set 0 ver).length = 64 := by rw [List.length_set]; exact hD.kl
  have hfinb : ∀ T V kns er fd va pt ks vs cs tm kv vv cv, (x.fin c i d T V kns er fd va pt ks vs cs tm kv vv cv).bs[c]? = some (-1) := fun _ _ _ _ _ _ _ _ _ _ _ _ _ _ => List.getElem?_set_self hcb
  have hall : ahead o x.now = o := ahead_all o x.now h.ot
  have hil := (List.getElem?_eq_some_iff.1 hd).1
  have hupd1 : ∀ q, d.k = 1 → lmap n q = upd d.k d.key d.v (lmap n) q := fun q e => by unfold upd; rw [if_neg (by omega : ¬ d.k = 2), if_neg (by omega : ¬ d.k = 3)]; split <;> rfl
  rcases hL.st with ⟨hf, hts⟩ | ⟨hk, T, v0, fnd, va, n', hf, hkn, hv0, hv1, hun, hlv, hva, hfn, hcur⟩
  · have hrk : rkI c x = 2 := by rw [rkI_at hb hd, if_pos hf]
    by_cases hk1 : d.k = 1
    · have hts0 := hts (Or.inl hk1)
      refine (step_get hP hk1 hts0 hf fr w0 w B htab hB hM).mono ?_
      rintro e w' ⟨hu, tm, kv, vv, cv, hM'⟩
      refine ⟨hu, _, ⟨n, t, ver, o, h.fin hc hb hd he _ _ _ _ _ _ _ _ _ _ tm kv vv cv hkl h.T h.un h.lv h.hi h.V (Or.inl rfl) (fun _ h1 => h1) ?_ ?_ ?_ h.om, nx_fin .., Or.inl (hfinb ..), ⟨_, List.getElem?_set_self hil, rfl, rfl, rfl, rfl, Or.inr ⟨hfinb .., rfl, Or.inr (Or.inl ⟨rfl, by omega, rfl, rfl, fun _ => rfl, fun q => hupd1 q hk1⟩)⟩⟩⟩, hM'⟩
      · simp [tkD, hk1]
      · simp [tkD, hk1]
      · refine ⟨⟨0, rfl, by simp⟩, ?_, Or.inr ⟨by show d.k ≠ 4; omega, rfl, rfl, rfl, Or.inr ⟨rfl, ?_, ?_⟩⟩⟩
        · show (d.ts ++ [x.now])[(0 : Int).toNat]?.getD 0 < x.now + 1
          rw [hts0]; simp; omega
        · show (lmap n d.key).isSome = (mapO (ahead o ((d.ts ++ [x.now])[(0 : Int).toNat]?.getD 0)) d.key).isSome
          rw [hts0]
          show _ = (mapO (ahead o x.now) d.key).isSome
          rw [hall, h.om]
        · show (lmap n d.key).getD 0 = (mapO (ahead o ((d.ts ++ [x.now])[(0 : Int).toNat]?.getD 0)) d.key).getD 0
          rw [hts0]
          show _ = (mapO (ahead o x.now) d.key).getD 0
          rw [hall, h.om]
    · by_cases hk4 : d.k = 4
      · have hts0 := hts (Or.inr hk4)
        have hl0 : d.ts.length = 0 := by rw [hts0]; rfl
        refine (step_scan hP hk4 hts0 hf fr w0 w B htab hB hM).mono ?_
        rintro e w' ⟨hu, tm, kv, vv, cv, hM'⟩
        refine ⟨hu, _, ⟨n, t, ver, o, h.fin hc hb hd he _ _ _ _ _ _ _ _ _ _ tm kv vv cv hkl h.T h.un h.lv h.hi h.V (Or.inl rfl) (fun _ h1 => h1) ?_ ?_ ?_ h.om, nx_fin .., Or.inl (hfinb ..), ⟨_, List.getElem?_set_self hil, rfl, rfl, rfl, rfl, Or.inr ⟨hfinb .., rfl, Or.inr (Or.inr ⟨rfl, hk4, rfl, by show decide (0 < (scK (rdS d.k d.key d.v d.ts.length) n).length) = _; rw [hl0], by show ((scK (rdS d.k d.key d.v d.ts.length) n).length : Int) = _; rw [hl0]⟩)⟩⟩⟩, hM'⟩
        · simp [tkD, hk4]
        · simp [tkD, hk4]
        · refine ⟨⟨0, rfl, by simp⟩, ?_, Or.inl ⟨hk4, n, ⟨h.un.1, h.lv, h.hi, fun q => ?_, ?_, ?_, rfl, ?_, ?_, rfl, rfl⟩⟩⟩
          · show (d.ts ++ [x.now])[(0 : Int).toNat]?.getD 0 < x.now + 1
            rw [hts0]; simp; omega
          · show lmap n q = mapO (ahead o ((d.ts ++ [x.now])[(0 : Int).toNat]?.getD 0)) q
            rw [hts0]
            show _ = mapO (ahead o x.now) q
            rw [hall, h.om]
          · show scK (rdS d.k d.key d.v d.ts.length) n = _; rw [hl0]
          · show scV (rdS d.k d.key d.v d.ts.length) n = _; rw [hl0]
          · show decide (0 < (scK (rdS d.k d.key d.v d.ts.length) n).length) = _; rw [hl0]
          · show ((scK (rdS d.k d.key d.v d.ts.length) n).length : Int) = _; rw [hl0]
      · have hk23 : d.k = 2 ∨ d.k = 3 := by omega
        have hatn : ∀ m : Int → Option Int, (d.ts ++ [x.now])[((d.ts.length : Nat) : Int).toNat]?.getD 0 = x.now := fun _ => by rw [Int.toNat_natCast]; exact at_now _ _
        by_cases hch : (lmap n d.key).isSome = true ∨ (d.k = 2 ∧ n.ks.length < 5)
        · refine (step_change hP hk23 hch hf fr w0 w B htab hB hM).mono ?_
          rintro e w' ⟨hu, tm, f, ⟨T, hT, hfT⟩, hM'⟩
          have hkn0 : (d.kns.set 0 ver)[0]? = some ver := List.getElem?_set_self (by rw [hD.kl]; omega)
          have hlr := lmap_rng h.un.1 h.lv d.key
          have hlv' : Live n ver { d with tm := tm, f := f, ts := d.ts ++ [x.now], kns := d.kns.set 0 ver, rf := d.rf } := by
            refine ⟨hL.live, Or.inr ⟨hk23, T, ver, (lmap n d.key).isSome, (lmap n d.key).getD 0, chN n d.k d.key (valS d.k d.v), ?_, hkn0, h.vb.1, Int.le_refl _, hT, h.lv, hlr, fun e1 => ?_, fun _ => ⟨rfl, rfl, rfl⟩⟩⟩
            · show f.data.toList = frT (wrS d.k d.key d.v (d.ts ++ [x.now]).length T ver _ _)
              rw [List.length_append, List.length_singleton]; exact hfT
            · cases h2 : lmap n d.key with
              | none => rfl
              | some u => rw [h2] at e1; cases e1
          refine ⟨hu, _, ⟨n, t, ver, o, h.go hd he tm f _ hkl hlv', nx_go .., Or.inr ?_, ⟨_, List.getElem?_set_self hil, rfl, rfl, rfl, rfl, Or.inl ⟨hb, he, rfl⟩⟩⟩, hM'⟩
          have hd' : (x.go i d tm f (d.kns.set 0 ver)).ds[i]? = some { d with tm := tm, f := f, ts := d.ts ++ [x.now], kns := d.kns.set 0 ver, rf := d.rf } := List.getElem?_set_self (List.getElem?_eq_some_iff.1 hd).1
          rw [rkI_at (x := x.go i d tm f (d.kns.set 0 ver)) hb hd', hrk, if_neg, if_pos]
          · omega
          · show (d.kns.set 0 ver)[0]? = x.V[0]?
            rw [hkn0, h.V]
          · show ¬ f.data.toList = frT (rdS d.k d.key d.v (d.ts ++ [x.now]).length)
            rw [List.length_append, List.length_singleton, hfT]
            exact wr_ne_rd (unp_size ⟨_, hT⟩).1
        · have hno : lmap n d.key = none := by
            cases h2 : lmap n d.key with
            | none => rfl
            | some u => exact absurd (Or.inl (by rw [h2]; rfl)) hch
          rcases hk23 with hk2 | hk3
          · have h5 : 5 ≤ n.ks.length := by
              rcases Nat.lt_or_ge n.ks.length 5 with h6 | h6
              · exact absurd (Or.inr ⟨hk2, h6⟩) hch
              · exact h6
            refine (step_full hP hk2 hno h5 hf fr w0 w B htab hB hM).mono ?_
            rintro e w' ⟨hu, tm, kv, vv, cv, hM'⟩
            refine ⟨hu, _, ⟨n, t, ver, o, h.fin hc hb hd he _ _ _ _ _ _ _ _ _ _ tm kv vv cv hkl h.T h.un h.lv h.hi h.V (Or.inl rfl) (fun _ h1 => h1) ?_ ?_ ?_ h.om, nx_fin .., Or.inl (hfinb ..), ⟨_, List.getElem?_set_self hil, rfl, rfl, rfl, rfl, Or.inr ⟨hfinb .., rfl, Or.inl ⟨rfl, hk2, hno, h5, rfl⟩⟩⟩⟩, hM'⟩
            · simp [tkD]
            · simp [tkD]
            · refine ⟨⟨0, rfl, by simp⟩, ?_, Or.inr ⟨hk4, rfl, rfl, rfl, Or.inl ⟨rfl, hk2, rfl, rfl⟩⟩⟩
              show (d.ts ++ [x.now])[(0 : Int).toNat]?.getD 0 < x.now + 1
              cases h3 : d.ts with
              | nil => simp; omega
              | cons y r =>
                have := hD.lt y (by rw [h3]; simp)
                simp; omega
          · have hmq : ∀ q, lmap n q = upd d.k d.key d.v (lmap n) q := fun q => by
              unfold upd
              by_cases hq : q = d.key
              · rw [if_pos hq, if_neg (show ¬ d.k = 2 by omega), if_pos hk3, hq, hno]
              · rw [if_neg hq]
            refine (step_dropno hP hk3 hno hf fr w0 w B htab hB hM).mono ?_
            rintro e w' ⟨hu, tm, kv, vv, cv, hM'⟩
            refine ⟨hu, _, ⟨n, t, ver, o ++ [⟨x.now, d.k, d.key, d.v⟩], h.fin hc hb hd he _ _ _ _ _ _ _ _ _ _ tm kv vv cv hkl h.T h.un h.lv h.hi h.V (Or.inl rfl) (fun _ h1 => h1) ?_ ?_ ?_ fun q => ?_, nx_fin .., Or.inl (hfinb ..), ⟨_, List.getElem?_set_self hil, rfl, rfl, rfl, rfl, Or.inr ⟨hfinb .., rfl, Or.inr (Or.inl ⟨rfl, hk4, by rw [hno]; rfl, by rw [hno]; rfl, fun e1 => absurd e1 hk1, hmq⟩)⟩⟩⟩, hM'⟩
            · simp [tkD, hk3]
            · simp [tkD, hk3]
            · refine ⟨⟨d.ts.length, rfl, by simp⟩, ?_, Or.inr ⟨hk4, rfl, rfl, rfl, Or.inr ⟨rfl, ?_, ?_⟩⟩⟩
              · show (d.ts ++ [x.now])[((d.ts.length : Nat) : Int).toNat]?.getD 0 < x.now + 1
                rw [hatn (mapO o)]; omega
              · show false = (mapO (ahead (o ++ [⟨x.now, d.k, d.key, d.v⟩]) ((d.ts ++ [x.now])[((d.ts.length : Nat) : Int).toNat]?.getD 0)) d.key).isSome
                rw [hatn (mapO o), ahead_snoc _ _ _ (Int.le_refl _), hall, h.om, hno]; rfl
              · show 0 = (mapO (ahead (o ++ [⟨x.now, d.k, d.key, d.v⟩]) ((d.ts ++ [x.now])[((d.ts.length : Nat) : Int).toNat]?.getD 0)) d.key).getD 0
                rw [hatn (mapO o), ahead_snoc _ _ _ (Int.le_refl _), hall, h.om, hno]; rfl
            · rw [mapO_snoc, hmq q]
              unfold upd
              rw [h.om q]
  · have hnr : ¬ d.f.data.toList = frT (rdS d.k d.key d.v d.ts.length) := by rw [hf]; exact wr_ne_rd (unp_size ⟨_, hun⟩).1
    by_cases hvv : v0 = ver
    · subst hvv
      obtain ⟨hn', hfd, hvl⟩ := hcur rfl
      have hT0 : 0 < x.T.length := (List.getElem?_eq_some_iff.1 h.T).1
      have hV0 : 0 < x.V.length := (List.getElem?_eq_some_iff.1 h.V).1
      have hk4 : d.k ≠ 4 := by omega
      have hatn : (d.ts ++ [x.now])[((d.ts.length : Nat) : Int).toNat]?.getD 0 = x.now := by rw [Int.toNat_natCast]; exact at_now _ _
      have hmq : ∀ q, lmap n' q = upd d.k d.key d.v (lmap n) q := fun q => by
        have hb2 := right_bd n h.un.1
        have hr6 := h.un.1
        unfold rightB at hr6
        simp only [Bool.and_eq_true, decide_eq_true_eq] at hr6
        rw [hn']
        show look ((chK n d.k d.key).zip (chV n d.k d.key (valS d.k d.v))) q = _
        rw [ch_look n d.k d.key (valS d.k d.v) hb2.2.2.2.1 (fun y hy => ⟨(hb2.2.2.2.2.2.2.1 y hy).1, (keysOk_all _ _ _ hr6.2.2.2.2.2.1 y hy).2⟩) hk]
        unfold upd
        by_cases hq : q = d.key
        · rw [if_pos hq, if_pos hq]
          rcases hk with hk | hk
          · rw [if_pos hk, if_pos hk]
            unfold valS
            rw [if_neg (by omega)]
          · rw [if_neg (by omega), if_pos hk, if_neg (by omega), if_pos hk]
        · rw [if_neg hq, if_neg hq]; rfl
      refine (step_done hP hk hun hlv hva hfn hkn hf fr w0 w B htab hB hM).mono ?_
      rintro e w' ⟨hu, tm, kv, vv, cv, hM'⟩
      refine ⟨hu, _, ⟨n', T, v0 + 1, o ++ [⟨x.now, d.k, d.key, d.v⟩], h.fin hc hb hd he _ _ _ _ _ _ _ _ _ _ tm kv vv cv (by rw [List.length_set]; exact hD.kl) (List.getElem?_set_self hT0) hun hlv (by rw [hn']; exact h.hi) (List.getElem?_set_self hV0) (Or.inr rfl) (fun e1 h1 => ?_) ?_ ?_ ?_ fun q => ?_, nx_fin .., Or.inl (hfinb ..), ⟨_, List.getElem?_set_self hil, rfl, rfl, rfl, rfl, Or.inr ⟨hfinb .., rfl, Or.inr (Or.inl ⟨rfl, hk4, hfd, hvl, fun e1 => by omega, hmq⟩)⟩⟩⟩, hM'⟩
      · refine ⟨h1.live, ?_⟩
        rcases h1.st with h2 | ⟨a1, a2, a3, a4, a5, a6, b1, b2, b3, b4, b5, b6, b7, b8, b9⟩
        · exact Or.inl h2
        · exact Or.inr ⟨a1, a2, a3, a4, a5, a6, b1, b2, b3, by omega, b5, b6, b7, b8, fun e2 => by omega⟩
      · simp only [tkD]
        rw [if_pos ⟨hk, trivial⟩, hatn]; rfl
      · intro e2 he2
        simp only [tkD] at he2
        rw [if_pos ⟨hk, trivial⟩, hatn, Option.mem_toList] at he2
        cases he2; rfl
      · refine ⟨⟨d.ts.length, rfl, by simp⟩, ?_, Or.inr ⟨hk4, rfl, rfl, rfl, Or.inr ⟨rfl, ?_, ?_⟩⟩⟩
        · show (d.ts ++ [x.now])[((d.ts.length : Nat) : Int).toNat]?.getD 0 < x.now + 1
          rw [hatn]; omega
        · show fnd = (mapO (ahead (o ++ [⟨x.now, d.k, d.key, d.v⟩]) ((d.ts ++ [x.now])[((d.ts.length : Nat) : Int).toNat]?.getD 0)) d.key).isSome
          rw [hatn, ahead_snoc _ _ _ (Int.le_refl _), hall, h.om]; exact hfd
        · show va = (mapO (ahead (o ++ [⟨x.now, d.k, d.key, d.v⟩]) ((d.ts ++ [x.now])[((d.ts.length : Nat) : Int).toNat]?.getD 0)) d.key).getD 0
          rw [hatn, ahead_snoc _ _ _ (Int.le_refl _), hall, h.om]; exact hvl
      · rw [mapO_snoc, hmq q]
        unfold upd
        rw [h.om q]
    · have hrk : rkI c x = 3 := by
        rw [rkI_at hb hd, if_neg hnr, if_neg]
        rw [hkn, h.V]; exact fun e => hvv (Option.some.inj e)
      refine (step_not hP hk hun hlv hva hfn hkn ⟨hv0, hv1⟩ hvv hf fr w0 w B htab hB hM).mono ?_
      rintro e w' ⟨hu, tm, f, hfT, hM'⟩
      have hlv' : Live n ver { d with tm := tm, f := f, ts := d.ts ++ [x.now], kns := d.kns, rf := d.rf } := by
        refine ⟨hL.live, Or.inl ⟨?_, fun e1 => ?_⟩⟩
        · show f.data.toList = frT (rdS d.k d.key d.v (d.ts ++ [x.now]).length)
          rw [List.length_append, List.length_singleton]; exact hfT
        · have e2 : d.k = 1 ∨ d.k = 4 := e1
          omega
      refine ⟨hu, _, ⟨n, t, ver, o, h.go hd he tm f _ hD.kl hlv', nx_go .., Or.inr ?_, ⟨_, List.getElem?_set_self hil, rfl, rfl, rfl, rfl, Or.inl ⟨hb, he, rfl⟩⟩⟩, hM'⟩
      have hd' : (x.go i d tm f d.kns).ds[i]? = some { d with tm := tm, f := f, ts := d.ts ++ [x.now], kns := d.kns, rf := d.rf } := List.getElem?_set_self (List.getElem?_eq_some_iff.1 hd).1
      rw [rkI_at (x := x.go i d tm f d.kns) hb hd', hrk, if_pos]
      · omega
      · show f.data.toList = frT (rdS d.k d.key d.v (d.ts ++ [x.now]).length)
        rw [List.length_append, List.length_singleton]; exact hfT
end Go.Proofs.YtjpgldeeopmbgaaDoor.Sap

/- WHAT IS PROVED HERE: the beginning of an operation keeps what holds at any time (Inv); so the program at this commit is a machine (Mc) over which scripts are played; what the answers are when all have ended. Conditions: the numbers are small. -/
namespace Go.Proofs.YtjpgldeeopmbgaaDoor.Sap
open Go.RowKit

theorem Inv.begun {gw : Nat} {x : Wd} {n : Nd} {t : ByteArray} {ver : Int} {o : List Dn} (h : Inv gw x n t ver o) {c : Nat} (hc : c < 64) (hb : x.bs[c]? = some (-1)) {k key v : Int} (ho : opR k key v = true) (gd kg kc : Nat) (f : ByteArray) (dv : Value) (hf : f.data.toList = frT (rdS k key v 0)) :
    Inv gw ({ x with dv := dv, bs := x.bs.set c x.ds.length, puts := pu k x.puts, ds := x.ds ++ [Dd.new gd kg kc k key v f] } : Wd) n t ver o := by
  have hcb : c < x.bs.length := by rw [h.bsl]; exact hc
  have hlt : ∀ (k i : Nat), x.bs[k]? = some (i : Int) → i < x.ds.length := fun k i h1 => by
    have hk : k < 64 := by rw [← h.bsl]; exact (List.getElem?_eq_some_iff.1 h1).1
    rcases h.bs k hk with h2 | ⟨j, d, h2, h3, -⟩
    · rw [h1] at h2; have := Option.some.inj h2; omega
    · rw [h1] at h2
      have := Option.some.inj h2
      have := (List.getElem?_eq_some_iff.1 h3).1
      omega
  have hvb := h.vb
  refine ⟨h.pg, h.kp, h.wt, h.ov, h.T, h.un, h.lv, h.hi, h.U, h.V, h.vb, ?_, ?_, fun k hk => ?_, fun k k' i h1 h2 => ?_, fun i d hd => ?_, fun i d hd he => ?_, h.os, ?_, h.ot, h.om, h.ok⟩
  · show 0 ≤ pu k x.puts ∧ pu k x.puts ≤ ((x.ds ++ [_]).length : Int)
    have := h.puts
    rw [List.length_append, List.length_singleton]
    unfold pu
    split <;> omega
  · show (x.bs.set c _).length = 64; rw [List.length_set]; exact h.bsl
  · show (x.bs.set c (x.ds.length : Int))[k]? = some (-1) ∨ ∃ (i : Nat) (d : Dd), (x.bs.set c (x.ds.length : Int))[k]? = some (i : Int) ∧ (x.ds ++ [Dd.new gd kg kc _ key v f])[i]? = some d ∧ d.en = false
    by_cases hkc : c = k
    · subst hkc
      exact Or.inr ⟨x.ds.length, _, List.getElem?_set_self hcb, by rw [List.getElem?_append_right (Nat.le_refl _), Nat.sub_self]; rfl, rfl⟩
    · rw [List.getElem?_set_ne hkc]
      rcases h.bs k hk with h1 | ⟨i, d, h1, h2, h3⟩
      · exact Or.inl h1
      · exact Or.inr ⟨i, d, h1, by rw [List.getElem?_append_left (List.getElem?_eq_some_iff.1 h2).1]; exact h2, h3⟩
  · replace h1 : (x.bs.set c (x.ds.length : Int))[k]? = some (i : Int) := h1
    replace h2 : (x.bs.set c (x.ds.length : Int))[k']? = some (i : Int) := h2
    by_cases hkc : c = k
    · by_cases hkc' : c = k'
      · omega
      · subst hkc
        rw [List.getElem?_set_self hcb] at h1
        rw [List.getElem?_set_ne hkc'] at h2
        have := hlt k' i h2
        have := Option.some.inj h1
        omega
    · rw [List.getElem?_set_ne hkc] at h1
      by_cases hkc' : c = k'
      · subst hkc'
        rw [List.getElem?_set_self hcb] at h2
        have := hlt k i h1
        have := Option.some.inj h2
        omega
      · rw [List.getElem?_set_ne hkc'] at h2
        exact h.inj k k' i h1 h2
  · replace hd : (x.ds ++ [Dd.new gd kg kc k key v f])[i]? = some d := hd
    rcases Nat.lt_trichotomy i x.ds.length with hi | hi | hi
    · rw [List.getElem?_append_left hi] at hd
      exact h.ds i d hd
    · rw [List.getElem?_append_right (by omega), hi, Nat.sub_self] at hd
      cases hd
      exact ⟨ho, by show ((0 : Nat) : Int) ≤ x.now; omega, fun τ hτ => (by cases hτ), by show (List.replicate 64 (-1 : Int)).length = 64; rw [List.length_replicate], fun _ => ⟨⟨rfl, rfl, rfl, rfl, rfl, rfl, rfl, rfl, rfl, rfl, rfl⟩, Or.inl ⟨hf, fun _ => rfl⟩⟩, fun e => Bool.noConfusion e⟩
    · rw [List.getElem?_eq_none (by rw [List.length_append, List.length_singleton]; omega)] at hd
      cases hd
  · replace hd : (x.ds ++ [Dd.new gd kg kc k key v f])[i]? = some d := hd
    show ∃ k, k < 64 ∧ (x.bs.set c (x.ds.length : Int))[k]? = some (i : Int)
    rcases Nat.lt_trichotomy i x.ds.length with hi | hi | hi
    · rw [List.getElem?_append_left hi] at hd
      obtain ⟨k', h1, h2⟩ := h.own i d hd he
      have hkc : c ≠ k' := fun e => by subst e; rw [hb] at h2; have := Option.some.inj h2; omega
      exact ⟨k', h1, by rw [List.getElem?_set_ne hkc]; exact h2⟩
    · exact ⟨c, hc, by rw [List.getElem?_set_self hcb, hi]⟩
    · rw [List.getElem?_eq_none (by rw [List.length_append, List.length_singleton]; omega)] at hd
      cases hd
  · show o.Perm (tkE (x.ds ++ [Dd.new gd kg kc k key v f]))
    have h9 := tkE_snoc x.ds (Dd.new gd kg kc k key v f) rfl
    rw [h9]; exact h.op

def InvG (gw : Nat) (x : Wd) : Prop := (∃ n t ver o, Inv gw x n t ver o) ∧ x.ds.length ≤ 90000001

theorem mcI (w0 : World) (htab : Tab w0) : Mc (InvG w0.heap.size) rkI w0.heap.size w0 w0.heap.size where
  pg := fun x ⟨⟨_, _, _, _, h⟩, _⟩ => h.pg
  bs := fun x c ⟨⟨_, _, _, _, h⟩, _⟩ hc => by
    rcases h.bs c hc with h1 | ⟨i, d, h1, h2, -⟩
    · exact Or.inl h1
    · refine Or.inr ⟨⟨i, h1⟩, ?_⟩
      rw [rkI_at h1 h2]
      split
      · omega
      · split <;> omega
  now := fun x ⟨⟨_, _, _, _, h⟩, _⟩ => by have := h.vb; omega
  mv := fun x c i W fr hc ⟨⟨n, t, ver, o, h⟩, hl⟩ hn hb hM => by
    obtain ⟨d, hd⟩ : ∃ d, x.ds[i]? = some d := by
      rcases h.bs c hc with h1 | ⟨j, d, h1, h2, -⟩
      · rw [hb] at h1; have := Option.some.inj h1; omega
      · obtain rfl : i = j := by rw [hb] at h1; have := Option.some.inj h1; omega
        exact ⟨d, h2⟩
    have C := h.move hc hb hd hn (by omega) fr w0 W w0.heap.size htab rfl hM
    rw [h.pg] at C
    refine C.mono ?_
    rintro e w' ⟨hu, x', ⟨n', t', ver', o', hI, hN, hR, -⟩, hM'⟩
    exact ⟨hu, x', ⟨⟨n', t', ver', o', hI⟩, by rw [hN.nd]; exact hl⟩, hN, hR, hM'⟩
  bg := fun x c k key v W fr hc ⟨⟨n, t, ver, o, h⟩, _⟩ hl ho hb hM => by
    have hp := h.puts
    have C := begin_step x c k key v fr w0 W w0.heap.size htab rfl hc (by omega) hp.1 (by omega) ho hM
    rw [h.pg] at C
    refine C.mono ?_
    rintro e w' ⟨hu, gd, kg, kc, f, dv, hf, hM'⟩
    refine ⟨hu, { x with gw := w0.heap.size, dv := dv, bs := x.bs.set c x.ds.length, puts := pu k x.puts, ds := x.ds ++ [Dd.new gd kg kc k key v f] }, ⟨⟨n, t, ver, o, by have h9 := h.begun hc hb ho gd kg kc f dv hf; rw [h.pg] at h9; exact h9⟩, ?_⟩, rfl, ?_, fun j hj => List.getElem?_set_ne (fun e => hj e.symm), hM'⟩
    · show (x.ds ++ [_]).length ≤ _; rw [List.length_append, List.length_singleton]; omega
    · show (x.ds ++ [_]).length = _; rw [List.length_append, List.length_singleton]

theorem inv_first (gw tg tc ug uc vg vc bg bc : Nat) : Inv gw (Wd.first gw tg tc ug uc vg vc bg bc) ⟨0, -1, 10000, [], []⟩ firstB 0 [] := by
  have hb : ∀ c, c < 64 → (List.replicate 64 (-1 : Int))[c]? = some (-1) := fun c hc => by rw [List.getElem?_replicate, if_pos hc]
  refine ⟨rfl, rfl, rfl, rfl, rfl, first_unp, rfl, rfl, rfl, rfl, ⟨Int.le_refl _, Int.le_refl _⟩, ⟨Int.le_refl _, Int.le_refl _⟩, ?_, fun c hc => Or.inl (hb c hc), fun c c' i h1 _ => ?_, fun i d hd => (by cases hd), fun i d hd => (by cases hd), List.Pairwise.nil, List.Perm.refl _, fun e he => (by cases he), fun q => rfl, fun e he => (by cases he)⟩
  · show (List.replicate 64 (-1 : Int)).length = 64; rw [List.length_replicate]
  · replace h1 : (List.replicate 64 (-1 : Int))[c]? = some (i : Int) := h1
    have hc : c < 64 := by have := (List.getElem?_eq_some_iff.1 h1).1; rw [List.length_replicate] at this; exact this
    rw [hb c hc] at h1
    have := Option.some.inj h1
    omega

theorem Inv.allEnded {gw : Nat} {x : Wd} {n : Nd} {t : ByteArray} {ver : Int} {o : List Dn} (h : Inv gw x n t ver o) (hid : ∀ c, c < 64 → x.bs[c]? = some (-1)) : ∀ d ∈ x.ds, d.en = true ∧ DdOk n ver o x.now d := by
  intro d hd
  obtain ⟨i, hi⟩ := List.mem_iff_getElem?.1 hd
  refine ⟨?_, h.ds i d hi⟩
  cases he : d.en with
  | true => rfl
  | false =>
    obtain ⟨c, hc, hb⟩ := h.own i d hi he
    rw [hid c hc] at hb
    have := Option.some.inj hb
    omega
theorem Inv.over {gw : Nat} {x : Wd} {n : Nd} {t : ByteArray} {ver : Int} {o : List Dn} (h : Inv gw x n t ver o) (hid : ∀ c, c < 64 → x.bs[c]? = some (-1)) (hn : x.now ≤ 90000000) : ∀ d ∈ x.ds, d.over := by
  intro d hd
  obtain ⟨he, hD⟩ := h.allEnded hid d hd
  obtain ⟨p, h1, h2⟩ := (hD.ed he).p
  exact ⟨he, p, h1, h2, by have := hD.nt; omega⟩
/-- The order in which the operations took effect is the only one. -/
theorem Inv.uniq {gw : Nat} {x : Wd} {n : Nd} {t : ByteArray} {ver : Int} {o o' : List Dn} (h : Inv gw x n t ver o) (hid : ∀ c, c < 64 → x.bs[c]? = some (-1)) (hp : o'.Perm (tkL x.ds)) (hs : Srt o') : o' = o := by
  refine srt_uniq o o' h.os ?_ hs
  rw [← tkE_all x.ds fun d hd => (h.allEnded hid d hd).1] at hp
  exact hp.trans h.op.symm
theorem ahead_ok {o : List Dn} (h : ∀ e ∈ o, e.k = 2 ∨ e.k = 3) (τ : Int) : ∀ e ∈ ahead o τ, e.k = 2 ∨ e.k = 3 := fun e he => h e ((List.takeWhile_sublist _).mem he)
theorem Inv.sin {gw : Nat} {x : Wd} {n : Nd} {t : ByteArray} {ver : Int} {o : List Dn} (h : Inv gw x n t ver o) (hid : ∀ c, c < 64 → x.bs[c]? = some (-1)) : ∀ d ∈ x.ds, d.k ≠ 4 → SinOk x d := by
  intro d hd hk
  obtain ⟨he, hD⟩ := h.allEnded hid d hd
  have hE := hD.ed he
  rcases hE.an with ⟨h4, -⟩ | ⟨-, h1, h2, h3, h5⟩
  · exact absurd h4 hk
  · refine ⟨h1, h2, h3, ?_⟩
    rcases h5 with h5 | ⟨e0, e1, e2⟩
    · exact Or.inl h5
    · refine Or.inr ⟨e0, fun o' hp hs fd v hV => ?_⟩
      rw [h.uniq hid hp hs] at hV
      obtain ⟨a1, a2, a3⟩ := tabO_look (ahead o (d.ts[d.pt.toNat]?.getD 0)) (ahead_ok h.ok _)
      obtain ⟨b1, b2⟩ := valR_look a1 a2 hV
      rw [a3] at b1 b2
      exact ⟨e1.trans b1.symm, e2.trans b2.symm⟩
end Go.Proofs.YtjpgldeeopmbgaaDoor.Sap

/- WHAT IS PROVED HERE: an operation that moves alone, nobody else being under way, is answered as the leaf has it; so the six operations of saplingkeep's proved are answered as the document has it, and the program at this commit is good (Good). Conditions: the numbers are small. -/
namespace Go.Proofs.YtjpgldeeopmbgaaDoor.Sap
open Go.RowKit

/-- The answer of an operation that moved alone over the leaf n; n': the leaf behind it. -/
def Res (n : Nd) (k key v : Int) (n' : Nd) (d' : Dd) : Prop :=
  (d'.er = 4 ∧ k = 2 ∧ lmap n key = none ∧ 5 ≤ n.ks.length ∧ n' = n) ∨
  (d'.er = 0 ∧ k ≠ 4 ∧ d'.fd = (lmap n key).isSome ∧ d'.va = (lmap n key).getD 0 ∧ (k = 1 → d'.pt = 0 ∧ d'.ts.length = 1) ∧ ∀ q, lmap n' q = upd k key v (lmap n) q) ∨
  (d'.er = 0 ∧ k = 4 ∧ n' = n ∧ d'.fd = decide (0 < (scK (rdS k key v 0) n).length) ∧ d'.va = (scK (rdS k key v 0) n).length)

/-- A world in which client 0 alone may be under way, with its i-th operation; the leaf was n when it was begun. -/
def LoI (gw : Nat) (n : Nd) (i N : Nat) (k key v : Int) (top : Int) (x : Wd) : Prop :=
  ∃ n' t' ver' o', Inv gw x n' t' ver' o' ∧ x.now + ((if x.bs[0]? = some (-1) then 0 else rkI 0 x : Nat) : Int) ≤ top ∧ x.ds.length = N ∧ (∀ c, c < 64 → c ≠ 0 → x.bs[c]? = some (-1)) ∧
    ∃ d', x.ds[i]? = some d' ∧ d'.k = k ∧ d'.key = key ∧ d'.v = v ∧ ((x.bs[0]? = some (i : Int) ∧ d'.en = false ∧ n' = n) ∨ (x.bs[0]? = some (-1) ∧ d'.en = true ∧ Res n k key v n' d'))

theorem ne_neg {i : Nat} : ¬ (some (i : Int) = some (-1)) := fun e => by have := Option.some.inj e; omega

theorem lone {n : Nd} {i N : Nat} {k key v : Int} {top : Int} (w0 : World) (htab : Tab w0) (x0 : Wd) (h0 : LoI w0.heap.size n i N k key v top x0) (htop : top ≤ 90000000) (hN : N ≤ 100000000) (hi : x0.bs[0]? = some (i : Int)) (fr : List As) (w : World) (hM : M w0 w0.heap.size w (x0.as ++ fr)) :
    Calls Tryd.prog 32 #[.pointer (some ⟨w0.heap.size, 0, none⟩), .int .i64 0] w fun e w' => (∃ u, e = .returned u) ∧ ∃ x', LoI w0.heap.size n i N k key v top x' ∧ x'.bs[0]? = some (-1) ∧ M w0 w0.heap.size w' (x'.as ++ fr) := by
  refine alone_gen 0 w0.heap.size (LoI w0.heap.size n i N k key v top) (fun x => if x.bs[0]? = some (-1) then 0 else rkI 0 x) fr w0 w w0.heap.size x0 (by omega) (fun x hx => ?_) (fun x hx => ?_) (fun x j W hx hb hW => ?_) h0 ?_ hM
  · obtain ⟨_, _, _, _, h, -⟩ := hx; exact h.pg
  · obtain ⟨n', t', ver', o', h, -, -, -, d', h1, -, -, -, h2⟩ := hx
    rcases h2 with ⟨h3, -, -⟩ | ⟨h3, -, -⟩
    · refine Or.inr ⟨⟨i, h3⟩, ?_⟩
      show 0 < (if x.bs[0]? = some (-1) then 0 else rkI 0 x)
      rw [h3, if_neg ne_neg, rkI_at h3 h1]
      split
      · omega
      · split <;> omega
    · exact Or.inl h3
  · obtain ⟨n', t', ver', o', h, ht, hl, hid, d', hd, hk, hkey, hv, h2⟩ := hx
    rcases h2 with ⟨h3, he, hn⟩ | ⟨h3, -, -⟩
    · obtain rfl : j = i := by rw [hb] at h3; have := Option.some.inj h3; omega
      subst hn
      rw [hb, if_neg ne_neg] at ht
      have hpos : 0 < rkI 0 x := by
        rw [rkI_at hb hd]
        split
        · omega
        · split <;> omega
      have C := h.move (by omega) hb hd (by omega) (by omega) fr w0 W w0.heap.size htab rfl hW
      rw [h.pg] at C
      refine C.mono ?_
      rintro e w' ⟨hu, x', ⟨n2, t2, ver2, o2, hI, hX, hR, d2, e1, e2, e3, e4, e5, e6⟩, hM'⟩
      have hlt : (if x'.bs[0]? = some (-1) then 0 else rkI 0 x') < (if x.bs[0]? = some (-1) then 0 else rkI 0 x) := by
        rw [hb, if_neg ne_neg]
        rcases hR with hR | hR
        · rw [if_pos hR]; exact hpos
        · split <;> omega
      refine ⟨hu, x', ⟨n2, t2, ver2, o2, hI, ?_, by rw [hX.nd]; exact hl, fun c hc hc0 => by rw [hX.bs c hc0]; exact hid c hc hc0, d2, e1, e2.trans hk, e3.trans hkey, e4.trans hv, ?_⟩, hlt, hM'⟩
      · have := hX.now
        rw [hb, if_neg ne_neg] at hlt
        omega
      · rcases e6 with ⟨a1, a2, a3⟩ | ⟨a1, a2, a3⟩
        · exact Or.inl ⟨a1, a2, a3⟩
        · refine Or.inr ⟨a1, a2, ?_⟩
          rw [hk, hkey, hv] at a3
          rcases a3 with a3 | ⟨b1, b2, b3, b4, b5, b6⟩ | a3
          · exact Or.inl a3
          · refine Or.inr (Or.inl ⟨b1, b2, b3, b4, fun h1 => ⟨b5 h1, ?_⟩, b6⟩)
            rcases ((h.ds j d' hd).lv he).st with ⟨-, hts⟩ | ⟨hk2, -⟩
            · rw [e5, hts (Or.inl (by omega))]; rfl
            · omega
          · exact Or.inr (Or.inr a3)
    · rw [hb] at h3
      exact absurd h3 ne_neg
  · obtain ⟨n', t', ver', o', h, ht, hl, hid, d', hd, -⟩ := h0
    show (if x0.bs[0]? = some (-1) then 0 else rkI 0 x0) ≤ 1000
    rw [hi, if_neg ne_neg, rkI_at hi hd]
    split
    · omega
    · split <;> omega

/-- An operation of client 0, begun where nobody is under way. -/
theorem lone_begin {x : Wd} {n : Nd} {t : ByteArray} {ver : Int} {o : List Dn} (w0 : World) (htab : Tab w0) (h : Inv w0.heap.size x n t ver o) (hid : ∀ c, c < 64 → x.bs[c]? = some (-1)) (hnd : x.ds.length ≤ 90000000) {k key v : Int} (ho : opR k key v = true) (fr : List As) (w : World) (hM : M w0 w0.heap.size w (x.as ++ fr)) :
    Calls Tryd.prog 31 #[.pointer (some ⟨w0.heap.size, 0, none⟩), .int .i64 0, .agg #[.int .i64 k, .int .i64 key, .int .i64 v]] w fun e w' => (∃ u, e = .returned u) ∧ ∃ x', LoI w0.heap.size n x.ds.length (x.ds.length + 1) k key v (x.now + 3) x' ∧ x'.bs[0]? = some (x.ds.length : Int) ∧ M w0 w0.heap.size w' (x'.as ++ fr) := by
  have hp := h.puts
  have C := begin_step x 0 k key v fr w0 w w0.heap.size htab rfl (by omega) (by omega) hp.1 (by omega) ho hM
  rw [h.pg] at C
  refine C.mono ?_
  rintro e w' ⟨hu, gd, kg, kc, f, dv, hf, hM'⟩
  have hI := h.begun (c := 0) (by omega) (hid 0 (by omega)) ho gd kg kc f dv hf
  rw [h.pg] at hI
  have hb : (x.bs.set 0 (x.ds.length : Int))[0]? = some (x.ds.length : Int) := List.getElem?_set_self (by rw [h.bsl]; omega)
  have hd : (x.ds ++ [Dd.new gd kg kc k key v f])[x.ds.length]? = some (Dd.new gd kg kc k key v f) := by rw [List.getElem?_append_right (Nat.le_refl _), Nat.sub_self]; rfl
  refine ⟨hu, { x with gw := w0.heap.size, dv := dv, bs := x.bs.set 0 x.ds.length, puts := pu k x.puts, ds := x.ds ++ [Dd.new gd kg kc k key v f] }, ⟨n, t, ver, o, hI, ?_, ?_, fun c hc hc0 => ?_, _, hd, rfl, rfl, rfl, Or.inl ⟨hb, rfl, rfl⟩⟩, hb, hM'⟩
  · show x.now + ((if (x.bs.set 0 (x.ds.length : Int))[0]? = some (-1) then 0 else rkI 0 _ : Nat) : Int) ≤ x.now + 3
    rw [hb, if_neg ne_neg, rkI_at (x := { x with gw := w0.heap.size, dv := dv, bs := x.bs.set 0 x.ds.length, puts := pu k x.puts, ds := x.ds ++ [Dd.new gd kg kc k key v f] }) hb hd]
    split
    · omega
    · split <;> omega
  · show (x.ds ++ [_]).length = _; rw [List.length_append, List.length_singleton]
  · show (x.bs.set 0 _)[c]? = _
    rw [List.getElem?_set_ne (fun e => hc0 e.symm)]; exact hid c hc
end Go.Proofs.YtjpgldeeopmbgaaDoor.Sap
