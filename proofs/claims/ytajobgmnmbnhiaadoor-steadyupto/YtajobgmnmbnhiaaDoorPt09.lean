/- WHAT IS PROVED HERE: page.readHead reads a text's first seven bytes. Conditions: none but the text's length within what memory bears. -/
import Derived.Test.YtajobgmnmbnhiaaDoorPt06
namespace Go.Proofs.YtajobgmnmbnhiaaDoor.Sap
open Go.RowKit
def hLv (s : List UInt8) : Int := numV (seg s 0 1)
def hLk (s : List UInt8) : Int := numOr (seg s 1 2) [45, 45] (-1)
def hHi (s : List UInt8) : Int := numOr (seg s 3 4) [45, 45, 45, 45] 10000
def headOk (s : List UInt8) : Bool := decide (7 ≤ s.length) && (allDig (seg s 0 1) && (digOr (seg s 1 2) [45, 45] && digOr (seg s 3 4) [45, 45, 45, 45]))
theorem seg_size (s : ByteArray) (i j : Nat) (h : j - i ≤ 4) : (s.extract i j).size ≤ 4 := by
  rw [ByteArray.size_extract]; omega
set_option maxRecDepth 100000 in
set_option maxHeartbeats 800000 in
theorem readHead_any (s : ByteArray) (w : World) (hs : s.size ≤ 47) :
    Calls Tryd.prog 46 #[.string s] w fun e w' => (headOk s.data.toList = true ∧ e = .returned (.tuple #[.agg #[.int .i64 (hLv s.data.toList), .int .i64 (hLk s.data.toList), .int .i64 (hHi s.data.toList), .slice none 0 0, .slice none 0 0], .bool true]) ∨ headOk s.data.toList = false ∧ e = .returned (.tuple #[.agg #[.int .i64 0, .int .i64 0, .int .i64 0, .slice none 0 0, .slice none 0 0], .bool false])) ∧ Below w.heap.size w w' := by
  by_cases hlen : s.size < 7
  · have hno : Hid (headOk s.data.toList = false) := by unfold Hid headOk; rw [ba_size, decide_eq_false (by omega)]; rfl
    go_enter Tryd.func46, Tryd.ntmps46
    go_wp2
    refine bodyPost_ret (v := .tuple #[.agg #[.int .i64 0, .int .i64 0, .int .i64 0, .slice none 0 0, .slice none 0 0], .bool false]) (by simp [results, Tryd.results46, go_sem]) rfl ⟨Or.inr ⟨hno.out, rfl⟩, ?_⟩
    exact (Below.refl _ _).alloc (Nat.le_refl _) _
  · have HL : Hid (7 ≤ s.size) := by unfold Hid; omega
    obtain ⟨v1, hv1⟩ : ∃ v, numV (s.extract 0 1).data.toList = v := ⟨_, rfl⟩
    obtain ⟨v2, hv2⟩ : ∃ v, numOr (s.extract 1 3).data.toList [45, 45] (-1) = v := ⟨_, rfl⟩
    obtain ⟨v3, hv3⟩ : ∃ v, numOr (s.extract 3 7).data.toList [45, 45, 45, 45] 10000 = v := ⟨_, rfl⟩
    obtain ⟨o1, ho1⟩ : ∃ v, allDig (s.extract 0 1).data.toList = v := ⟨_, rfl⟩
    obtain ⟨o2, ho2⟩ : ∃ v, digOr (s.extract 1 3).data.toList [45, 45] = v := ⟨_, rfl⟩
    obtain ⟨o3, ho3⟩ : ∃ v, digOr (s.extract 3 7).data.toList [45, 45, 45, 45] = v := ⟨_, rfl⟩
    have c1 := number_any (s.extract 0 1) (w.alloc (.cells #[.int .i64 0, .int .i64 0, .int .i64 0, .slice none 0 0, .slice none 0 0] 24)) (seg_size s 0 1 (by decide))
    have c2 := numberOr_any (s.extract 1 3) ⟨#[45, 45]⟩ (-1) (w.alloc (.cells #[.int .i64 0, .int .i64 0, .int .i64 0, .slice none 0 0, .slice none 0 0] 24)) (seg_size s 1 3 (by decide))
    have c3 := numberOr_any (s.extract 3 7) ⟨#[45, 45, 45, 45]⟩ 10000 (w.alloc (.cells #[.int .i64 0, .int .i64 0, .int .i64 0, .slice none 0 0, .slice none 0 0] 24)) (seg_size s 3 7 (by decide))
    rw [hv1, ho1] at c1
    rw [show (ByteArray.mk #[45, 45]).data.toList = [45, 45] from rfl, hv2, ho2] at c2
    rw [show (ByteArray.mk #[45, 45, 45, 45]).data.toList = [45, 45, 45, 45] from rfl, hv3, ho3] at c3
    rw [ba_extract] at hv1 hv2 hv3 ho1 ho2 ho3
    have HV1 : Hid (hLv s.data.toList = v1) := hv1
    have HV2 : Hid (hLk s.data.toList = v2) := hv2
    have HV3 : Hid (hHi s.data.toList = v3) := hv3
    have HO : Hid (headOk s.data.toList = (o1 && (o2 && o3))) := by
      unfold Hid headOk; rw [← ho1, ← ho2, ← ho3, ba_size, decide_eq_true HL.out]; rfl
    have C1 := hideIt c1
    have C2 := hideIt c2
    have C3 := hideIt c3
    clear c1 c2 c3 hv1 hv2 hv3 ho1 ho2 ho3
    cases o1
    · go_enter Tryd.func46, Tryd.ntmps46
      go_wp2_with fail
      refine C1.out.mono ?_
      rintro e w1 ⟨rfl, rfl⟩
      go_wp2_with fail
      refine C2.out.mono ?_
      rintro e w1 ⟨rfl, rfl⟩
      go_wp2_with fail
      refine C3.out.mono ?_
      rintro e w1 ⟨rfl, rfl⟩
      go_wp2
      refine bodyPost_ret (v := .tuple #[.agg #[.int .i64 0, .int .i64 0, .int .i64 0, .slice none 0 0, .slice none 0 0], .bool false]) (by simp [results, Tryd.results46, go_sem]) rfl ⟨Or.inr ⟨HO.out, rfl⟩, ?_⟩
      exact (Below.refl _ _).alloc (Nat.le_refl _) _
    cases o2
    · go_enter Tryd.func46, Tryd.ntmps46
      go_wp2_with fail
      refine C1.out.mono ?_
      rintro e w1 ⟨rfl, rfl⟩
      go_wp2_with fail
      refine C2.out.mono ?_
      rintro e w1 ⟨rfl, rfl⟩
      go_wp2_with fail
      refine C3.out.mono ?_
      rintro e w1 ⟨rfl, rfl⟩
      go_wp2
      refine bodyPost_ret (v := .tuple #[.agg #[.int .i64 0, .int .i64 0, .int .i64 0, .slice none 0 0, .slice none 0 0], .bool false]) (by simp [results, Tryd.results46, go_sem]) rfl ⟨Or.inr ⟨HO.out, rfl⟩, ?_⟩
      exact (Below.refl _ _).alloc (Nat.le_refl _) _
    cases o3
    · go_enter Tryd.func46, Tryd.ntmps46
      go_wp2_with fail
      refine C1.out.mono ?_
      rintro e w1 ⟨rfl, rfl⟩
      go_wp2_with fail
      refine C2.out.mono ?_
      rintro e w1 ⟨rfl, rfl⟩
      go_wp2_with fail
      refine C3.out.mono ?_
      rintro e w1 ⟨rfl, rfl⟩
      go_wp2
      refine bodyPost_ret (v := .tuple #[.agg #[.int .i64 0, .int .i64 0, .int .i64 0, .slice none 0 0, .slice none 0 0], .bool false]) (by simp [results, Tryd.results46, go_sem]) rfl ⟨Or.inr ⟨HO.out, rfl⟩, ?_⟩
      exact (Below.refl _ _).alloc (Nat.le_refl _) _
    · go_enter Tryd.func46, Tryd.ntmps46
      go_wp2_with fail
      refine C1.out.mono ?_
      rintro e w1 ⟨rfl, rfl⟩
      go_wp2_with fail
      refine C2.out.mono ?_
      rintro e w1 ⟨rfl, rfl⟩
      go_wp2_with fail
      refine C3.out.mono ?_
      rintro e w1 ⟨rfl, rfl⟩
      go_wp2
      refine bodyPost_ret (v := .tuple #[.agg #[.int .i64 v1, .int .i64 v2, .int .i64 v3, .slice none 0 0, .slice none 0 0], .bool true]) (by simp [results, Tryd.results46, go_sem]) rfl ⟨Or.inl ⟨HO.out, by rw [HV1.out, HV2.out, HV3.out]⟩, ?_⟩
      exact (Below.refl _ _).alloc (Nat.le_refl _) _
theorem infoInt : (Tryd.prog.info? 3).map (fun i => (i.zero, i.size, i.bytes)) = some (some (.int .i64 0), 1, 8) := by kernel_rfl
set_option maxRecDepth 100000 in
set_option maxHeartbeats 1600000 in
theorem readEntries_any (lv lk hi : Int) (kv0 vv0 : Value) (s : ByteArray) (w : World) (hs : s.size ≤ 47) (h7 : 7 ≤ s.size) :
    Calls Tryd.prog 47 #[.agg #[.int .i64 lv, .int .i64 lk, .int .i64 hi, kv0, vv0], .string s] w fun e w' =>
      ((∃ j kv vv, 7 + j * wd lv = s.data.toList.length ∧ (∀ i, i < j → digAt lv s.data.toList i = true) ∧ e = .returned (.tuple #[.agg #[.int .i64 lv, .int .i64 lk, .int .i64 hi, kv, vv], .bool true]) ∧ Own w' w.heap.size kv vv (kL lv s.data.toList j) (vL lv s.data.toList j))
        ∨ (¬ entOk lv s.data.toList ∧ e = .returned (.tuple #[.agg #[.int .i64 0, .int .i64 0, .int .i64 0, .slice none 0 0, .slice none 0 0], .bool false]))) ∧ Below w.heap.size w w' := by
  obtain ⟨i0, hi0, hz0, hz1, hz2⟩ := info_parts infoInt
  have hwd := wd_pos lv
  obtain ⟨d, hd⟩ : ∃ d, wd lv = d := ⟨_, rfl⟩
  obtain ⟨v, hv⟩ : ∃ v, vw lv = v := ⟨_, rfl⟩
  rw [hd, hv] at hwd
  obtain ⟨hw6, hw8, hwv⟩ := hwd
  have HD := hideIt hd
  have HV := hideIt hv
  have HDV := hideIt hwv
  have hv4 : v ≤ 4 := by omega
  have hdv1 : (d : Int) ≤ 4 + v := by omega
  have hdv2 : (4 : Int) + v ≤ d := by omega
  clear hd hwv
  have CW := hideIt (valWidth_any lv)
  go_enter Tryd.func47, Tryd.ntmps47
  go_wp2_with fail
  refine (CW.out _).mono ?_
  rintro e w1 ⟨rfl, rfl⟩
  rw [hv]
  clear hv CW
  go_wp2_with fail
  have hst : ((w.alloc (.cells #[.int .i64 lv, .int .i64 lk, .int .i64 hi, kv0, vv0] 24)).alloc (.cells #[.int .i64 0, .int .i64 0, .int .i64 0, .slice none 0 0, .slice none 0 0] 24)).heap[w.heap.size + 1]? = some (.cells #[.int .i64 0, .int .i64 0, .int .i64 0, .slice none 0 0, .slice none 0 0] 24 (0, 0)) := by
    have := heap_alloc_new (w.alloc (.cells #[.int .i64 lv, .int .i64 lk, .int .i64 hi, kv0, vv0] 24)) (.cells #[.int .i64 0, .int .i64 0, .int .i64 0, .slice none 0 0, .slice none 0 0] 24)
    simpa using this
  have HST := hideIt hst
  clear hst
  go_loopw [8] (fun a wr => ∃ (p j : Nat) (kv vv : Value), a = .int .i64 p ∧ p ≤ s.size ∧ Hid (p = 7 + j * d) ∧ Hid (∀ i, i < j → digAt lv s.data.toList i = true) ∧ NB wr (w.heap.size + 1 + 1) lv lk hi kv vv (kL lv s.data.toList j) (vL lv s.data.toList j) ∧ Hid (wr.heap[w.heap.size + 1]? = some (.cells #[.int .i64 0, .int .i64 0, .int .i64 0, .slice none 0 0, .slice none 0 0] 24 (0, 0))) ∧ Below w.heap.size w wr) (fun a _ => s.size - (intOf a).toNat)
  case atStart => exact ⟨7, 0, _, _, rfl, h7, by unfold Hid; omega, fun i hi => by omega, NB.new _ lv lk hi _ (by simp), by unfold Hid; rw [Below.heap_alloc _ _ _ (by simp)]; exact HST.out, (((Below.refl _ _).alloc (Nat.le_refl _) _).alloc (by simp) _).alloc (by simp; omega) _⟩
  case round =>
    obtain ⟨p, j, kv, vv, rfl, hp, hpj, hdig, hNB, hres, hbw⟩ := hrel
    obtain ⟨ak, ck, rfl⟩ := own_form hNB.2.1
    obtain ⟨av, cv, rfl⟩ := own_form hNB.2.2.1
    have HN := hideIt hNB
    obtain ⟨⟨q0, q1, q2, q3, q4⟩, ⟨f0, f1, f2, f3, f4⟩⟩ := node_cells hNB.1
    have hsz := hNB.lt
    clear hNB
    by_cases hlt : p + (4 + v) ≤ s.size
    · have c1 := number_any (s.extract p (p + 4)) wr (by rw [ByteArray.size_extract]; omega)
      have c2 := number_any (s.extract (p + 4) (p + (4 + v))) wr (by rw [ByteArray.size_extract]; omega)
      rw [ext_seg] at c1
      rw [ext_seg2 s p (4 + v) v rfl] at c2
      have ek : Hid (seg s.data.toList p 4 = seg s.data.toList (7 + j * wd lv) 4) := by unfold Hid; rw [HD.out, ← hpj.out]
      have ev : Hid (seg s.data.toList (p + 4) v = seg s.data.toList (7 + j * wd lv + 4) (vw lv)) := by unfold Hid; rw [HD.out, ← hpj.out, HV.out]
      have HDG : Hid (digAt lv s.data.toList j = (allDig (seg s.data.toList p 4) && allDig (seg s.data.toList (p + 4) v))) := by unfold Hid digAt; rw [ek.out, ev.out]
      obtain ⟨o1, ho1⟩ : ∃ o, allDig (seg s.data.toList p 4) = o := ⟨_, rfl⟩
      obtain ⟨o2, ho2⟩ : ∃ o, allDig (seg s.data.toList (p + 4) v) = o := ⟨_, rfl⟩
      rw [ho1] at c1 HDG
      rw [ho2] at c2 HDG
      have HO1 := hideIt ho1
      have HO2 := hideIt ho2
      have C1 := hideIt c1
      have C2 := hideIt c2
      have hpl : (p : Int) + (4 + v) ≤ s.size := by omega
      clear c1 c2 ho1 ho2
      cases o1
      · have hno : Hid (¬ entOk lv s.data.toList) := ent_no lv _ j (by rw [HD.out, ← hpj.out, ba_size, HDV.out]; exact hlt) (by rw [HDG.out]; rfl)
        obtain ⟨⟨r0, r1, r2, r3, r4⟩, ⟨e0, e1, e2, e3, e4⟩⟩ := node_cells hres.out
        go_wp2_with fail
        refine C1.out.mono ?_
        rintro e w1 ⟨rfl, rfl⟩
        go_wp2_with fail
        refine C2.out.mono ?_
        rintro e w1 ⟨rfl, rfl⟩
        go_wp2
        refine bodyPost_ret (v := .tuple #[.agg #[.int .i64 0, .int .i64 0, .int .i64 0, .slice none 0 0, .slice none 0 0], .bool false]) (by simp [results, Tryd.results47, go_sem, *]) rfl ⟨Or.inr ⟨hno.out, rfl⟩, ?_⟩
        repeat (refine Below.setCell ?_ (by simp) _)
        exact hbw
      cases o2
      · have hno : Hid (¬ entOk lv s.data.toList) := ent_no lv _ j (by rw [HD.out, ← hpj.out, ba_size, HDV.out]; exact hlt) (by rw [HDG.out]; rfl)
        obtain ⟨⟨r0, r1, r2, r3, r4⟩, ⟨e0, e1, e2, e3, e4⟩⟩ := node_cells hres.out
        go_wp2_with fail
        refine C1.out.mono ?_
        rintro e w1 ⟨rfl, rfl⟩
        go_wp2_with fail
        refine C2.out.mono ?_
        rintro e w1 ⟨rfl, rfl⟩
        go_wp2
        refine bodyPost_ret (v := .tuple #[.agg #[.int .i64 0, .int .i64 0, .int .i64 0, .slice none 0 0, .slice none 0 0], .bool false]) (by simp [results, Tryd.results47, go_sem, *]) rfl ⟨Or.inr ⟨hno.out, rfl⟩, ?_⟩
        repeat (refine Below.setCell ?_ (by simp) _)
        exact hbw
      · have hkn : Hid (numV (seg s.data.toList p 4) = kAt lv s.data.toList j) := by unfold Hid numV kAt; rw [HO1.out, ek.out]; rfl
        have hvn : Hid (numV (seg s.data.toList (p + 4) v) = vAt lv s.data.toList j) := by unfold Hid numV vAt; rw [HO2.out, ev.out]; rfl
        have hlj : Hid (j ≤ 40) := by unfold Hid; have h1 := hpj.out; have h2 : 6 * j ≤ j * d := by rw [Nat.mul_comm]; exact Nat.mul_le_mul_left _ hw6
                                      omega
        go_wp2_with fail
        refine C1.out.mono ?_
        rintro e w1 ⟨rfl, rfl⟩
        rw [hkn.out]
        go_wp2_with fail
        refine C2.out.mono ?_
        rintro e w1 ⟨rfl, rfl⟩
        rw [hvn.out]
        go_wp2_with (first | (at_builtin; refine wpList_append_own_at _ rfl _ _ 22 rfl (w.heap.size + 1 + 1 + 1) 3 i0 (.int .i64 0) 1 8 Tryd.underlying22 hi0 hz0 hz1 hz2 rfl (by decide) _ (kL lv s.data.toList j).length (ints (kL lv s.data.toList j)) rfl (HN.out.2.1.alloc _) ⟨w1.heap.size, 0, none⟩ 1 1 [.int .i64 (kAt lv s.data.toList j)] rfl rfl (news_one _ _ _) (by simp [Value.oneCell']) (by rw [len_kL]; have := hlj.out; unfold maxLen; omega) (by rw [len_kL]; have := hlj.out; omega) (by simp; omega) ?_; intro v1 w2 hown hgrow _ hat; obtain ⟨a1, cp1, rfl⟩ := own_form hown; have hpush := HN.out.pushK hown hgrow hat; have hmid := HN.out.mid hgrow (Or.inl rfl); obtain ⟨hpN, hpB⟩ := hpush; clear q0 q1 q2 q3 q4 f0 f1 f2 f3 f4 hown hgrow hat C1 C2; obtain ⟨⟨q0, q1, q2, q3, q4⟩, ⟨f0, f1, f2, f3, f4⟩⟩ := node_cells hmid.1; have HPN := hideIt hpN; have hsz2 := hpN.lt; clear hpN hmid) | (at_builtin; refine wpList_append_own_at _ rfl _ _ 22 rfl (w.heap.size + 1 + 1 + 1) 3 i0 (.int .i64 0) 1 8 Tryd.underlying22 hi0 hz0 hz1 hz2 rfl (by decide) _ (vL lv s.data.toList j).length (ints (vL lv s.data.toList j)) rfl (HPN.out.2.2.1.alloc _) ⟨w2.heap.size, 0, none⟩ 1 1 [.int .i64 (vAt lv s.data.toList j)] rfl rfl (by have := news_one (w2.setCell ⟨w.heap.size + 1 + 1, 3, none⟩ (.slice a1 ((kL lv s.data.toList j).length + 1) cp1)) (.int .i64 (vAt lv s.data.toList j)) 3; simpa using this) (by simp [Value.oneCell']) (by rw [len_vL]; have := hlj.out; unfold maxLen; omega) (by rw [len_vL]; have := hlj.out; omega) (by simp at hsz2 ⊢; omega) ?_; intro v2 w3 hown hgrow _ hat; obtain ⟨a2, cp2, rfl⟩ := own_form hown; have hpush := HPN.out.pushV hown hgrow hat; have hmid := HPN.out.mid hgrow (Or.inr rfl); obtain ⟨hpN, hpB2⟩ := hpush; clear q0 q1 q2 q3 q4 f0 f1 f2 f3 f4 hown hgrow hat; obtain ⟨⟨q0, q1, q2, q3, q4⟩, ⟨f0, f1, f2, f3, f4⟩⟩ := node_cells hmid.1; rw [← kL_succ, ← vL_succ] at hpN; have HPN2 := hideIt hpN; clear hpN hmid))
        have hB3 := hpB.trans hpB2
        have hres3 := hideIt ((hB3.block (w.heap.size + 1) (by omega)).trans hres.out)
        have hbw3 := hbw.trans (hB3.mono (by omega))
        clear hpB hpB2 hB3 hres hbw
        go_wp2
        go_roundw
        case rel =>
          refine ⟨p + (4 + v), j + 1, _, _, by go_num, hlt, ?_, ?_, HPN2.out, hres3, hbw3⟩
          · unfold Hid; rw [Nat.add_mul, hpj.out, HDV.out]; omega
          · intro i hi
            rcases Nat.lt_or_ge i j with h | h
            · exact hdig.out i h
            · obtain rfl : i = j := by omega
              rw [HDG.out]; rfl
        case measure => simp [intOf]; omega
    · obtain ⟨⟨r0, r1, r2, r3, r4⟩, ⟨e0, e1, e2, e3, e4⟩⟩ := node_cells hres.out
      by_cases hpe : p = s.size
      · have hn1 : ((p : Int) != (s.size : Int)) = false := by simp [hpe]
        have hfin : Hid (7 + j * wd lv = s.data.toList.length) := by unfold Hid; rw [HD.out, ← hpj.out, ba_size, hpe]
        have hp2 : s.size ≤ p := by omega
        clear hpe
        go_wp2
        refine bodyPost_ret (v := .tuple #[.agg #[.int .i64 lv, .int .i64 lk, .int .i64 hi, .slice ak (kL lv s.data.toList j).length ck, .slice av (vL lv s.data.toList j).length cv], .bool true]) (by simp [results, Tryd.results47, go_sem, *]) rfl ⟨Or.inl ⟨j, _, _, hfin.out, hdig.out, rfl, ?_⟩, ?_⟩
        · have hO := HN.out.2
          refine Own.mono (B := w.heap.size + 1 + 1 + 1) ?_ (by omega)
          repeat (refine Own.setCell ?_ (by show w.heap.size + 1 < _; omega) _)
          exact hO
        · repeat (refine Below.setCell ?_ (by simp) _)
          exact hbw
      · have hno : Hid (¬ entOk lv s.data.toList) := ent_no2 lv _ j (by rw [HD.out, ← hpj.out, ba_size]; exact hp) (by rw [HD.out, ← hpj.out, ba_size, HDV.out]; omega) (by rw [HD.out, ← hpj.out, ba_size]; exact hpe)
        have hn1 : ((p : Int) != (s.size : Int)) = true := by rw [bne_iff_ne]; omega
        clear hpe
        go_wp2
        refine bodyPost_ret (v := .tuple #[.agg #[.int .i64 0, .int .i64 0, .int .i64 0, .slice none 0 0, .slice none 0 0], .bool false]) (by simp [results, Tryd.results47, go_sem, *]) rfl ⟨Or.inr ⟨hno.out, rfl⟩, ?_⟩
        repeat (refine Below.setCell ?_ (by simp) _)
        exact hbw
def pickV (c n : Int) : Int := if c < 0 then (-(c + 1)) % n else c % n
theorem pickV_bd (c n : Int) (h : 1 ≤ n) : 0 ≤ pickV c n ∧ pickV c n < n := by
  unfold pickV
  split
  · exact ⟨Int.emod_nonneg _ (by omega), Int.emod_lt_of_pos _ (by omega)⟩
  · exact ⟨Int.emod_nonneg _ (by omega), Int.emod_lt_of_pos _ (by omega)⟩
set_option maxRecDepth 100000 in
set_option maxHeartbeats 800000 in
theorem pick_exact (c n : Int) (w : World) (h0 : -9223372036854775808 ≤ c) (h1 : c ≤ 9223372036854775807) (hn1 : 1 ≤ n) (hn2 : n ≤ 10000) :
    Calls Tryd.prog 36 #[.int .i64 c, .int .i64 n] w fun e w' => e = .returned (.int .i64 (pickV c n)) ∧ w' = w := by
  have hnz : (n == 0) = false := by simp; omega
  by_cases hc : c < 0
  · have HP : Hid (pickV c n = -(c + 1).tmod n) := by unfold Hid pickV; rw [if_pos hc, ← Int.neg_tmod, Int.tmod_eq_emod_of_nonneg (by omega)]
    go_enter Tryd.func36, Tryd.ntmps36
    go_wp2
    go_ret
    exact ⟨ret_int HP.out.symm, rfl⟩
  · have HP : Hid (pickV c n = c % n) := by unfold Hid pickV; rw [if_neg hc]
    go_enter Tryd.func36, Tryd.ntmps36
    go_wp2
    go_ret
    exact ⟨ret_int HP.out.symm, rfl⟩
end Go.Proofs.YtajobgmnmbnhiaaDoor.Sap
namespace Go.Proofs.YtajobgmnmbnhiaaDoor.Sap

def Unp (s : List UInt8) (n : Nd) : Prop := rightB n = true ∧ packT n = s
theorem seg_left (a b : List UInt8) (n : Nat) (h : a.length = n) : seg (a ++ b) 0 n = a := by
  unfold seg; rw [List.drop_zero]; exact List.take_left' h
theorem seg_right (a b : List UInt8) (i n : Nat) : seg (a ++ b) (a.length + i) n = seg b i n := by
  unfold seg; rw [← List.drop_drop, List.drop_left]
theorem seg_add (s : List UInt8) (a n m : Nat) : seg s a (n + m) = seg s a n ++ seg s (a + n) m := by
  unfold seg; rw [List.take_add, List.drop_drop]
theorem len_seg (s : List UInt8) (a n : Nat) (h : a + n ≤ s.length) : (seg s a n).length = n := by
  unfold seg; rw [List.length_take, List.length_drop]; omega
theorem seg_zero (s : List UInt8) (a : Nat) : seg s a 0 = [] := by simp [seg]
theorem seg_all (s : List UInt8) (a : Nat) : seg s a (s.length - a) = s.drop a := by
  unfold seg; exact List.take_of_length_le (by simp)
theorem numV_dg (w n : Nat) (h : n < 10 ^ w) : numV (dg w n) = n := by
  unfold numV; rw [allDig_dg, wth_dg w n h]; rfl
theorem dg_ne_dash (n : Nat) : dg 2 n ≠ [45, 45] ∧ dg 4 n ≠ [45, 45, 45, 45] := by
  have h2 := allDig_dg 2 n
  have h4 := allDig_dg 4 n
  exact ⟨fun e => by rw [e] at h2; revert h2; decide, fun e => by rw [e] at h4; revert h4; decide⟩
theorem head_segs (n : Nd) (r : List UInt8) : seg (headT n ++ r) 0 1 = dg 1 n.lv.toNat ∧ (n.hi = 10000 → seg (headT n ++ r) 1 2 = [45, 45] ∧ seg (headT n ++ r) 3 4 = [45, 45, 45, 45]) ∧ (n.hi ≠ 10000 → seg (headT n ++ r) 1 2 = dg 2 n.lk.toNat ∧ seg (headT n ++ r) 3 4 = dg 4 n.hi.toNat) := by
  have l1 : (dg 1 n.lv.toNat).length = 1 := len_dg _ _
  unfold headT
  refine ⟨?_, fun h => ?_, fun h => ?_⟩
  · rw [List.append_assoc]; exact seg_left _ _ _ l1
  · rw [if_pos h, List.append_assoc]
    have e1 := seg_right (dg 1 n.lv.toNat) ([45, 45, 45, 45, 45, 45] ++ r) 0 2
    have e2 := seg_right (dg 1 n.lv.toNat) ([45, 45, 45, 45, 45, 45] ++ r) 2 4
    rw [l1] at e1 e2
    refine ⟨e1.trans rfl, e2.trans rfl⟩
  · rw [if_neg h, List.append_assoc]
    have e1 := seg_right (dg 1 n.lv.toNat) (dg 2 n.lk.toNat ++ dg 4 n.hi.toNat ++ r) 0 2
    have e2 := seg_right (dg 1 n.lv.toNat) (dg 2 n.lk.toNat ++ dg 4 n.hi.toNat ++ r) 2 4
    rw [l1] at e1 e2
    refine ⟨e1.trans ?_, e2.trans ?_⟩
    · rw [List.append_assoc]; exact seg_left _ _ _ (len_dg _ _)
    · rw [List.append_assoc]
      have e3 := seg_right (dg 2 n.lk.toNat) (dg 4 n.hi.toNat ++ r) 0 4
      rw [len_dg] at e3
      exact e3.trans (seg_left _ _ _ (len_dg _ _))
theorem len_packT (n : Nd) (h : rightB n = true) : (packT n).length = 7 + wd n.lv * n.ks.length ∧ (packT n).length ≤ 47 := by
  obtain ⟨-, -, -, h4, h5, h6, -⟩ := right_bd n h
  have e : (packT n).length = 7 + wd n.lv * n.ks.length := by unfold packT; rw [List.length_append, len_headT, len_ents _ _ _ h4]
  refine ⟨e, ?_⟩
  rw [e]
  by_cases h0 : n.lv = 0
  · have : wd n.lv = 8 := by unfold wd vw; rw [if_pos h0]
    have := h6 h0; rw [‹wd n.lv = 8›]; omega
  · have : wd n.lv = 6 := by unfold wd vw; rw [if_neg h0]
    rw [this]; omega
theorem head_of {s : List UInt8} {n : Nd} (h : Unp s n) : headOk s = true ∧ hLv s = n.lv ∧ hLk s = n.lk ∧ hHi s = n.hi ∧ (wth (seg s 0 1) : Int) = n.lv ∧
    (n.hi = 10000 → seg s 1 2 = [45, 45]) ∧ (n.hi ≠ 10000 → seg s 1 2 = dg 2 n.lk.toNat ∧ (wth (seg s 1 2) : Int) = n.lk ∧ (wth (seg s 3 4) : Int) = n.hi) := by
  obtain ⟨hr, rfl⟩ := h
  obtain ⟨b1, b2, b3, -⟩ := right_bd n hr
  have hl := (len_packT n hr).1
  obtain ⟨s1, s2, s3⟩ := head_segs n (ents n.lv n.ks n.vs)
  change seg (packT n) 0 1 = _ at s1
  have n1 : n.lv.toNat < 10 ^ 1 := by omega
  have hv : hLv (packT n) = n.lv := by unfold hLv; rw [s1, numV_dg _ _ n1]; omega
  have hw : (wth (seg (packT n) 0 1) : Int) = n.lv := by rw [s1, wth_dg _ _ n1]; omega
  by_cases h10 : n.hi = 10000
  · obtain ⟨t1, t2⟩ := s2 h10
    change seg (packT n) 1 2 = _ at t1
    change seg (packT n) 3 4 = _ at t2
    refine ⟨?_, hv, ?_, ?_, hw, fun _ => t1, fun h => absurd h10 h⟩
    · unfold headOk; rw [decide_eq_true (by omega), s1, t1, t2, allDig_dg]; rfl
    · unfold hLk numOr; rw [t1, if_pos rfl]; omega
    · unfold hHi numOr; rw [t2, if_pos rfl]; omega
  · obtain ⟨t1, t2⟩ := s3 h10
    change seg (packT n) 1 2 = _ at t1
    change seg (packT n) 3 4 = _ at t2
    have n2 : n.lk.toNat < 10 ^ 2 := by omega
    have n4 : n.hi.toNat < 10 ^ 4 := by omega
    refine ⟨?_, hv, ?_, ?_, hw, fun h => absurd h h10, fun _ => ⟨t1, ?_, ?_⟩⟩
    · unfold headOk digOr; rw [decide_eq_true (by omega), s1, t1, t2, if_neg (dg_ne_dash _).1, if_neg (dg_ne_dash _).2, allDig_dg, allDig_dg, allDig_dg]; rfl
    · unfold hLk numOr; rw [t1, if_neg (dg_ne_dash _).1, numV_dg _ _ n2]; omega
    · unfold hHi numOr; rw [t2, if_neg (dg_ne_dash _).2, numV_dg _ _ n4]; omega
    · rw [t1, wth_dg _ _ n2]; omega
    · rw [t2, wth_dg _ _ n4]; omega
theorem list_of_at (xs : List Int) (f : Nat → Int) (h : ∀ i, i < xs.length → f i = xs[i]?.getD 0) : (List.range xs.length).map f = xs := by
  apply List.ext_getElem
  · simp
  · intro i h1 h2
    simp only [List.getElem_map, List.getElem_range]
    rw [h i h2]; simp [h2]
theorem ents_of {s : List UInt8} {n : Nd} (h : Unp s n) : 7 + n.ks.length * wd n.lv = s.length ∧ (∀ i, i < n.ks.length → digAt n.lv s i = true) ∧ kL n.lv s n.ks.length = n.ks ∧ vL n.lv s n.ks.length = n.vs := by
  obtain ⟨hr, rfl⟩ := h
  obtain ⟨b1, b2, b3, b4, b5, b6, b7, b8⟩ := right_bd n hr
  have hl := (len_packT n hr).1
  have hs : ∀ i, i < n.ks.length → seg (packT n) (7 + i * wd n.lv) 4 = dg 4 (n.ks[i]?.getD 0).toNat ∧ seg (packT n) (7 + i * wd n.lv + 4) (vw n.lv) = dg (vw n.lv) (n.vs[i]?.getD 0).toNat := by
    intro i hi
    have h1 := seg_ents n.lv n.ks n.vs i b4 hi
    have e1 := seg_right (headT n) (ents n.lv n.ks n.vs) (i * wd n.lv) 4
    have e2 := seg_right (headT n) (ents n.lv n.ks n.vs) (i * wd n.lv + 4) (vw n.lv)
    rw [len_headT] at e1 e2
    rw [← Nat.add_assoc] at e2
    exact ⟨e1.trans h1.1, e2.trans h1.2⟩
  refine ⟨by rw [hl, Nat.mul_comm], fun i hi => ?_, ?_, ?_⟩
  · unfold digAt; rw [(hs i hi).1, (hs i hi).2, allDig_dg, allDig_dg]; rfl
  · refine list_of_at n.ks _ fun i hi => ?_
    have hm := b7 _ (mem_at hi)
    unfold kAt; rw [(hs i hi).1, wth_dg _ _ (by omega)]; omega
  · rw [b4]
    refine list_of_at n.vs _ fun i hi => ?_
    have hm := b8 _ (mem_at hi)
    unfold vAt; rw [(hs i (by omega)).2, wth_dg _ _ hm.2]; omega
theorem Unp.uniq {s : List UInt8} {n m : Nd} (h : Unp s n) (k : Unp s m) : n = m := by
  obtain ⟨-, a1, a2, a3, -⟩ := head_of h
  obtain ⟨-, c1, c2, c3, -⟩ := head_of k
  obtain ⟨e1, -, e2, e3⟩ := ents_of h
  obtain ⟨f1, -, f2, f3⟩ := ents_of k
  obtain ⟨lv, lk, hi, ks, vs⟩ := n
  obtain ⟨lv', lk', hi', ks', vs'⟩ := m
  simp only at *
  obtain rfl : lv = lv' := by omega
  obtain rfl : lk = lk' := by omega
  obtain rfl : hi = hi' := by omega
  have hlen : ks.length = ks'.length := by
    have := (wd_pos lv).1
    exact Nat.eq_of_mul_eq_mul_right (by omega : 0 < wd lv) (by omega)
  rw [hlen] at e2 e3
  obtain rfl : ks = ks' := e2.symm.trans f2
  obtain rfl : vs = vs' := e3.symm.trans f3
  rfl
theorem ents_back (lv : Int) (s : List UInt8) (j : Nat) (h1 : 7 + j * wd lv ≤ s.length) (h2 : ∀ i, i < j → digAt lv s i = true) :
    ents lv (kL lv s j) (vL lv s j) = seg s 7 (j * wd lv) := by
  induction j with
  | zero => rw [Nat.zero_mul, seg_zero]; rfl
  | succ j ih =>
    rw [Nat.add_mul] at h1
    have hw := (wd_pos lv).2.2
    have hd := h2 j (Nat.lt_succ_self j)
    unfold digAt at hd
    simp only [Bool.and_eq_true] at hd
    have hk : (kL lv s (j + 1)).length = j + 1 := len_kL _ _ _
    have hv : (vL lv s (j + 1)).length = j + 1 := len_vL _ _ _
    have hsn := ents_snoc lv (kL lv s (j + 1)) (vL lv s (j + 1)) j (by omega) (by omega)
    rw [List.take_of_length_le (by omega), List.take_of_length_le (by omega)] at hsn
    rw [hsn]
    have t1 : (kL lv s (j + 1)).take j = kL lv s j := by rw [kL_succ]; exact List.take_left' (len_kL _ _ _)
    have t2 : (vL lv s (j + 1)).take j = vL lv s j := by rw [vL_succ]; exact List.take_left' (len_vL _ _ _)
    have g1 : (kL lv s (j + 1))[j]?.getD 0 = kAt lv s j := by rw [kL_succ, List.getElem?_append_right (by rw [len_kL]; omega), len_kL]; simp
    have g2 : (vL lv s (j + 1))[j]?.getD 0 = vAt lv s j := by rw [vL_succ, List.getElem?_append_right (by rw [len_vL]; omega), len_vL]; simp
    rw [t1, t2, g1, g2, ih (by omega) (fun i hi => h2 i (by omega))]
    have l1 := len_seg s (7 + j * wd lv) 4 (by omega)
    have l2 := len_seg s (7 + j * wd lv + 4) (vw lv) (by omega)
    have d1 := dg_snoc_inv _ hd.1
    have d2 := dg_snoc_inv _ hd.2
    rw [l1] at d1
    rw [l2] at d2
    unfold kAt vAt
    rw [Int.toNat_natCast, Int.toNat_natCast, d1, d2, Nat.add_mul, Nat.one_mul]
    rw [seg_add s 7 (j * wd lv) (wd lv)]
    congr 1
    rw [hw, seg_add]
theorem back {s : List UInt8} {j : Nat} (hh : headOk s = true) (h1 : 7 + j * wd (hLv s) = s.length) (h2 : ∀ i, i < j → digAt (hLv s) s i = true)
    (hr : rightB ⟨hLv s, hLk s, hHi s, kL (hLv s) s j, vL (hLv s) s j⟩ = true) : packT ⟨hLv s, hLk s, hHi s, kL (hLv s) s j, vL (hLv s) s j⟩ = s := by
  obtain ⟨-, -, b3, -⟩ := right_bd _ hr
  simp only at b3
  unfold headOk at hh
  simp only [Bool.and_eq_true, decide_eq_true_eq] at hh
  obtain ⟨hl, d1, d2, d3⟩ := hh
  have l1 := len_seg s 0 1 (by omega)
  have l2 := len_seg s 1 2 (by omega)
  have l4 := len_seg s 3 4 (by omega)
  have he : ents (hLv s) (kL (hLv s) s j) (vL (hLv s) s j) = s.drop 7 := by
    rw [ents_back _ _ _ (by omega) h2, show j * wd (hLv s) = s.length - 7 by omega, seg_all]
  have hv : dg 1 (hLv s).toNat = seg s 0 1 := by
    have := dg_snoc_inv _ d1
    rw [l1] at this
    unfold hLv numV; rw [d1]; exact this
  have hs : s = seg s 0 1 ++ (seg s 1 2 ++ seg s 3 4) ++ s.drop 7 := by
    have e := seg_add s 0 1 6
    have e2 := seg_add s 1 2 4
    rw [Nat.zero_add] at e
    have e3 : s = seg s 0 7 ++ s.drop 7 := by unfold seg; rw [List.drop_zero]; exact (List.take_append_drop 7 s).symm
    have e4 : seg s 0 7 = seg s 0 1 ++ seg s 1 6 := e
    have e5 : seg s 1 6 = seg s 1 2 ++ seg s 3 4 := e2
    rw [← e5, ← e4]; exact e3
  unfold packT headT
  simp only [he, hv]
  by_cases h10 : hHi s = 10000
  · have hlk : hLk s = -1 := by omega
    have t2 : seg s 1 2 = [45, 45] := by
      unfold hLk numOr at hlk
      split at hlk
      · assumption
      · unfold numV at hlk; split at hlk <;> omega
    have t3 : seg s 3 4 = [45, 45, 45, 45] := by
      unfold hHi numOr at h10
      split at h10
      · assumption
      · unfold numV at h10
        have := wth_lt (seg s 3 4)
        rw [l4] at this
        split at h10 <;> omega
    rw [if_pos h10]
    rw [t2, t3] at hs
    exact hs.symm
  · have t2 : seg s 1 2 ≠ [45, 45] := by
      intro e
      have : hLk s = -1 := by unfold hLk numOr; rw [if_pos e]
      omega
    have t3 : seg s 3 4 ≠ [45, 45, 45, 45] := by
      intro e
      exact h10 (by unfold hHi numOr; rw [if_pos e])
    unfold digOr at d2 d3
    rw [if_neg t2] at d2
    rw [if_neg t3] at d3
    have f2 : dg 2 (hLk s).toNat = seg s 1 2 := by
      have := dg_snoc_inv _ d2
      rw [l2] at this
      unfold hLk numOr numV; rw [if_neg t2, d2]; exact this
    have f3 : dg 4 (hHi s).toNat = seg s 3 4 := by
      have := dg_snoc_inv _ d3
      rw [l4] at this
      unfold hHi numOr numV; rw [if_neg t3, d3]; exact this
    rw [if_neg h10, f2, f3]
    exact hs.symm
end Go.Proofs.YtajobgmnmbnhiaaDoor.Sap
