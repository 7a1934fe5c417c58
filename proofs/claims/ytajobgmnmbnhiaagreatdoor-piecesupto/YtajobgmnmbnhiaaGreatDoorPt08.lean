/- WHAT IS PROVED HERE: page.readHead reads a text's first seven bytes. Conditions: none but the text's length within what memory bears. -/
import Derived.Test.YtajobgmnmbnhiaaGreatDoorPt06
namespace Go.Proofs.YtajobgmnmbnhiaaGreatDoor.Sap
open Go.RowKit
def hLv (s : List UInt8) : Int := numV (seg s 0 1)
def hLk (s : List UInt8) : Int := numOr (seg s 1 2) [45, 45] (-1)
def hHi (s : List UInt8) : Int := numOr (seg s 3 4) [45, 45, 45, 45] 10000
def headOk (s : List UInt8) : Bool := decide (7 ≤ s.length) && (allDig (seg s 0 1) && (digOr (seg s 1 2) [45, 45] && digOr (seg s 3 4) [45, 45, 45, 45]))
theorem seg_size (s : ByteArray) (i j : Nat) (h : j - i ≤ 4) : (s.extract i j).size ≤ 4 := by
  rw [ByteArray.size_extract]; omega
set_option maxRecDepth 100000 in
set_option maxHeartbeats 800000 in
theorem readHead_any (s : ByteArray) (w : World) (hs : s.size ≤ 47) :
    Calls Tryz.prog 50 #[.string s] w fun e w' => (headOk s.data.toList = true ∧ e = .returned (.tuple #[.agg #[.int .i64 (hLv s.data.toList), .int .i64 (hLk s.data.toList), .int .i64 (hHi s.data.toList), .slice none 0 0, .slice none 0 0], .bool true]) ∨ headOk s.data.toList = false ∧ e = .returned (.tuple #[.agg #[.int .i64 0, .int .i64 0, .int .i64 0, .slice none 0 0, .slice none 0 0], .bool false])) ∧ Below w.heap.size w w' := by
  by_cases hlen : s.size < 7
  · have hno : Hid (headOk s.data.toList = false) := by unfold Hid headOk; rw [ba_size, decide_eq_false (by omega)]; rfl
    go_enter Tryz.func50, Tryz.ntmps50
    go_wp2
    refine bodyPost_ret (v := .tuple #[.agg #[.int .i64 0, .int .i64 0, .int .i64 0, .slice none 0 0, .slice none 0 0], .bool false]) (by simp [results, Tryz.results50, go_sem]) rfl ⟨Or.inr ⟨hno.out, rfl⟩, ?_⟩
    exact (Below.refl _ _).alloc (Nat.le_refl _) _
  · have HL : Hid (7 ≤ s.size) := by unfold Hid; omega
    obtain ⟨v1, hv1⟩ : ∃ v, numV (s.extract 0 1).data.toList = v := ⟨_, rfl⟩
    obtain ⟨v2, hv2⟩ : ∃ v, numOr (s.extract 1 3).data.toList [45, 45] (-1) = v := ⟨_, rfl⟩
    obtain ⟨v3, hv3⟩ : ∃ v, numOr (s.extract 3 7).data.toList [45, 45, 45, 45] 10000 = v := ⟨_, rfl⟩
    obtain ⟨o1, ho1⟩ : ∃ v, allDig (s.extract 0 1).data.toList = v := ⟨_, rfl⟩
    obtain ⟨o2, ho2⟩ : ∃ v, digOr (s.extract 1 3).data.toList [45, 45] = v := ⟨_, rfl⟩
    obtain ⟨o3, ho3⟩ : ∃ v, digOr (s.extract 3 7).data.toList [45, 45, 45, 45] = v := ⟨_, rfl⟩
    have c1 := number_any (s.extract 0 1) (w.alloc (.cells #[.int .i64 0, .int .i64 0, .int .i64 0, .slice none 0 0, .slice none 0 0] 67)) (seg_size s 0 1 (by decide))
    have c2 := numberOr_any (s.extract 1 3) ⟨#[45, 45]⟩ (-1) (w.alloc (.cells #[.int .i64 0, .int .i64 0, .int .i64 0, .slice none 0 0, .slice none 0 0] 67)) (seg_size s 1 3 (by decide))
    have c3 := numberOr_any (s.extract 3 7) ⟨#[45, 45, 45, 45]⟩ 10000 (w.alloc (.cells #[.int .i64 0, .int .i64 0, .int .i64 0, .slice none 0 0, .slice none 0 0] 67)) (seg_size s 3 7 (by decide))
    rw [hv1, ho1] at c1
    rw [show (ByteArray.mk #[45, 45]).data.toList = [45, 45] from rfl, hv2, ho2] at c2
    rw [show (ByteArray.mk #[45, 45, 45, 45]).data.toList = [45, 45, 45, 45] from rfl, hv3, ho3] at c3
    rw [ba_extract] at hv1 hv2 hv3 ho1 ho2 ho3
    have HV1 : Hid (hLv s.data.toList = v1) := hv1
    have HV2 : Hid (hLk s.data.toList = v2) := hv2
    have HV3 : Hid (hHi s.data.toList = v3) := hv3
    have HO : Hid (headOk s.data.toList = (o1 && (o2 && o3))) := by
      unfold Hid headOk; rw [← ho1, ← ho2, ← ho3, ba_size, decide_eq_true HL.out]; rfl
    have C1 := hideIt c1
    have C2 := hideIt c2
    have C3 := hideIt c3
    clear c1 c2 c3 hv1 hv2 hv3 ho1 ho2 ho3
    cases o1
    · go_enter Tryz.func50, Tryz.ntmps50
      go_wp2_with fail
      refine C1.out.mono ?_
      rintro e w1 ⟨rfl, rfl⟩
      go_wp2_with fail
      refine C2.out.mono ?_
      rintro e w1 ⟨rfl, rfl⟩
      go_wp2_with fail
      refine C3.out.mono ?_
      rintro e w1 ⟨rfl, rfl⟩
      go_wp2
      refine bodyPost_ret (v := .tuple #[.agg #[.int .i64 0, .int .i64 0, .int .i64 0, .slice none 0 0, .slice none 0 0], .bool false]) (by simp [results, Tryz.results50, go_sem]) rfl ⟨Or.inr ⟨HO.out, rfl⟩, ?_⟩
      exact (Below.refl _ _).alloc (Nat.le_refl _) _
    cases o2
    · go_enter Tryz.func50, Tryz.ntmps50
      go_wp2_with fail
      refine C1.out.mono ?_
      rintro e w1 ⟨rfl, rfl⟩
      go_wp2_with fail
      refine C2.out.mono ?_
      rintro e w1 ⟨rfl, rfl⟩
      go_wp2_with fail
      refine C3.out.mono ?_
      rintro e w1 ⟨rfl, rfl⟩
      go_wp2
      refine bodyPost_ret (v := .tuple #[.agg #[.int .i64 0, .int .i64 0, .int .i64 0, .slice none 0 0, .slice none 0 0], .bool false]) (by simp [results, Tryz.results50, go_sem]) rfl ⟨Or.inr ⟨HO.out, rfl⟩, ?_⟩
      exact (Below.refl _ _).alloc (Nat.le_refl _) _
    cases o3
    · go_enter Tryz.func50, Tryz.ntmps50
      go_wp2_with fail
      refine C1.out.mono ?_
      rintro e w1 ⟨rfl, rfl⟩
      go_wp2_with fail
      refine C2.out.mono ?_
      rintro e w1 ⟨rfl, rfl⟩
      go_wp2_with fail
      refine C3.out.mono ?_
      rintro e w1 ⟨rfl, rfl⟩
      go_wp2
      refine bodyPost_ret (v := .tuple #[.agg #[.int .i64 0, .int .i64 0, .int .i64 0, .slice none 0 0, .slice none 0 0], .bool false]) (by simp [results, Tryz.results50, go_sem]) rfl ⟨Or.inr ⟨HO.out, rfl⟩, ?_⟩
      exact (Below.refl _ _).alloc (Nat.le_refl _) _
    · go_enter Tryz.func50, Tryz.ntmps50
      go_wp2_with fail
      refine C1.out.mono ?_
      rintro e w1 ⟨rfl, rfl⟩
      go_wp2_with fail
      refine C2.out.mono ?_
      rintro e w1 ⟨rfl, rfl⟩
      go_wp2_with fail
      refine C3.out.mono ?_
      rintro e w1 ⟨rfl, rfl⟩
      go_wp2
      refine bodyPost_ret (v := .tuple #[.agg #[.int .i64 v1, .int .i64 v2, .int .i64 v3, .slice none 0 0, .slice none 0 0], .bool true]) (by simp [results, Tryz.results50, go_sem]) rfl ⟨Or.inl ⟨HO.out, by rw [HV1.out, HV2.out, HV3.out]⟩, ?_⟩
      exact (Below.refl _ _).alloc (Nat.le_refl _) _
theorem infoInt : (Tryz.prog.info? 3).map (fun i => (i.zero, i.size, i.bytes)) = some (some (.int .i64 0), 1, 8) := by kernel_rfl
set_option maxRecDepth 100000 in
set_option maxHeartbeats 1600000 in
theorem readEntries_any (lv lk hi : Int) (kv0 vv0 : Value) (s : ByteArray) (w : World) (hs : s.size ≤ 47) (h7 : 7 ≤ s.size) :
    Calls Tryz.prog 51 #[.agg #[.int .i64 lv, .int .i64 lk, .int .i64 hi, kv0, vv0], .string s] w fun e w' =>
      ((∃ j kv vv, 7 + j * wd lv = s.data.toList.length ∧ (∀ i, i < j → digAt lv s.data.toList i = true) ∧ e = .returned (.tuple #[.agg #[.int .i64 lv, .int .i64 lk, .int .i64 hi, kv, vv], .bool true]) ∧ Own w' w.heap.size kv vv (kL lv s.data.toList j) (vL lv s.data.toList j))
        ∨ (¬ entOk lv s.data.toList ∧ e = .returned (.tuple #[.agg #[.int .i64 0, .int .i64 0, .int .i64 0, .slice none 0 0, .slice none 0 0], .bool false]))) ∧ Below w.heap.size w w' := by
  obtain ⟨i0, hi0, hz0, hz1, hz2⟩ := info_parts infoInt
  have hwd := wd_pos lv
  obtain ⟨d, hd⟩ : ∃ d, wd lv = d := ⟨_, rfl⟩
  obtain ⟨v, hv⟩ : ∃ v, vw lv = v := ⟨_, rfl⟩
  rw [hd, hv] at hwd
  obtain ⟨hw6, hw8, hwv⟩ := hwd
  have HD := hideIt hd
  have HV := hideIt hv
  have HDV := hideIt hwv
  have hv4 : v ≤ 4 := by omega
  have hdv1 : (d : Int) ≤ 4 + v := by omega
  have hdv2 : (4 : Int) + v ≤ d := by omega
  clear hd hwv
  have CW := hideIt (valWidth_any lv)
  go_enter Tryz.func51, Tryz.ntmps51
  go_wp2_with fail
  refine (CW.out _).mono ?_
  rintro e w1 ⟨rfl, rfl⟩
  rw [hv]
  clear hv CW
  go_wp2_with fail
  have hst : ((w.alloc (.cells #[.int .i64 lv, .int .i64 lk, .int .i64 hi, kv0, vv0] 67)).alloc (.cells #[.int .i64 0, .int .i64 0, .int .i64 0, .slice none 0 0, .slice none 0 0] 67)).heap[w.heap.size + 1]? = some (.cells #[.int .i64 0, .int .i64 0, .int .i64 0, .slice none 0 0, .slice none 0 0] 67 (0, 0)) := by
    have := heap_alloc_new (w.alloc (.cells #[.int .i64 lv, .int .i64 lk, .int .i64 hi, kv0, vv0] 67)) (.cells #[.int .i64 0, .int .i64 0, .int .i64 0, .slice none 0 0, .slice none 0 0] 67)
    simpa using this
  have HST := hideIt hst
  clear hst
  go_loopw [8] (fun a wr => ∃ (p j : Nat) (kv vv : Value), a = .int .i64 p ∧ p ≤ s.size ∧ Hid (p = 7 + j * d) ∧ Hid (∀ i, i < j → digAt lv s.data.toList i = true) ∧ NB wr (w.heap.size + 1 + 1) lv lk hi kv vv (kL lv s.data.toList j) (vL lv s.data.toList j) ∧ Hid (wr.heap[w.heap.size + 1]? = some (.cells #[.int .i64 0, .int .i64 0, .int .i64 0, .slice none 0 0, .slice none 0 0] 67 (0, 0))) ∧ Below w.heap.size w wr) (fun a _ => s.size - (intOf a).toNat)
  case atStart => exact ⟨7, 0, _, _, rfl, h7, by unfold Hid; omega, fun i hi => by omega, NB.new _ lv lk hi _ (by simp), by unfold Hid; rw [Below.heap_alloc _ _ _ (by simp)]; exact HST.out, (((Below.refl _ _).alloc (Nat.le_refl _) _).alloc (by simp) _).alloc (by simp; omega) _⟩
  case round =>
    obtain ⟨p, j, kv, vv, rfl, hp, hpj, hdig, hNB, hres, hbw⟩ := hrel
    obtain ⟨ak, ck, rfl⟩ := own_form hNB.2.1
    obtain ⟨av, cv, rfl⟩ := own_form hNB.2.2.1
    have HN := hideIt hNB
    obtain ⟨⟨q0, q1, q2, q3, q4⟩, ⟨f0, f1, f2, f3, f4⟩⟩ := node_cells hNB.1
    have hsz := hNB.lt
    clear hNB
    by_cases hlt : p + (4 + v) ≤ s.size
    · have c1 := number_any (s.extract p (p + 4)) wr (by rw [ByteArray.size_extract]; omega)
      have c2 := number_any (s.extract (p + 4) (p + (4 + v))) wr (by rw [ByteArray.size_extract]; omega)
      rw [ext_seg] at c1
      rw [ext_seg2 s p (4 + v) v rfl] at c2
      have ek : Hid (seg s.data.toList p 4 = seg s.data.toList (7 + j * wd lv) 4) := by unfold Hid; rw [HD.out, ← hpj.out]
      have ev : Hid (seg s.data.toList (p + 4) v = seg s.data.toList (7 + j * wd lv + 4) (vw lv)) := by unfold Hid; rw [HD.out, ← hpj.out, HV.out]
      have HDG : Hid (digAt lv s.data.toList j = (allDig (seg s.data.toList p 4) && allDig (seg s.data.toList (p + 4) v))) := by unfold Hid digAt; rw [ek.out, ev.out]
      obtain ⟨o1, ho1⟩ : ∃ o, allDig (seg s.data.toList p 4) = o := ⟨_, rfl⟩
      obtain ⟨o2, ho2⟩ : ∃ o, allDig (seg s.data.toList (p + 4) v) = o := ⟨_, rfl⟩
      rw [ho1] at c1 HDG
      rw [ho2] at c2 HDG
      have HO1 := hideIt ho1
      have HO2 := hideIt ho2
      have C1 := hideIt c1
      have C2 := hideIt c2
      have hpl : (p : Int) + (4 + v) ≤ s.size := by omega
      clear c1 c2 ho1 ho2
      cases o1
      · have hno : Hid (¬ entOk lv s.data.toList) := ent_no lv _ j (by rw [HD.out, ← hpj.out, ba_size, HDV.out]; exact hlt) (by rw [HDG.out]; rfl)
        obtain ⟨⟨r0, r1, r2, r3, r4⟩, ⟨e0, e1, e2, e3, e4⟩⟩ := node_cells hres.out
        go_wp2_with fail
        refine C1.out.mono ?_
        rintro e w1 ⟨rfl, rfl⟩
        go_wp2_with fail
        refine C2.out.mono ?_
        rintro e w1 ⟨rfl, rfl⟩
        go_wp2
        refine bodyPost_ret (v := .tuple #[.agg #[.int .i64 0, .int .i64 0, .int .i64 0, .slice none 0 0, .slice none 0 0], .bool false]) (by simp [results, Tryz.results51, go_sem, *]) rfl ⟨Or.inr ⟨hno.out, rfl⟩, ?_⟩
        repeat (refine Below.setCell ?_ (by simp) _)
        exact hbw
      cases o2
      · have hno : Hid (¬ entOk lv s.data.toList) := ent_no lv _ j (by rw [HD.out, ← hpj.out, ba_size, HDV.out]; exact hlt) (by rw [HDG.out]; rfl)
        obtain ⟨⟨r0, r1, r2, r3, r4⟩, ⟨e0, e1, e2, e3, e4⟩⟩ := node_cells hres.out
        go_wp2_with fail
        refine C1.out.mono ?_
        rintro e w1 ⟨rfl, rfl⟩
        go_wp2_with fail
        refine C2.out.mono ?_
        rintro e w1 ⟨rfl, rfl⟩
        go_wp2
        refine bodyPost_ret (v := .tuple #[.agg #[.int .i64 0, .int .i64 0, .int .i64 0, .slice none 0 0, .slice none 0 0], .bool false]) (by simp [results, Tryz.results51, go_sem, *]) rfl ⟨Or.inr ⟨hno.out, rfl⟩, ?_⟩
        repeat (refine Below.setCell ?_ (by simp) _)
        exact hbw
      · have hkn : Hid (numV (seg s.data.toList p 4) = kAt lv s.data.toList j) := by unfold Hid numV kAt; rw [HO1.out, ek.out]; rfl
        have hvn : Hid (numV (seg s.data.toList (p + 4) v) = vAt lv s.data.toList j) := by unfold Hid numV vAt; rw [HO2.out, ev.out]; rfl
        have hlj : Hid (j ≤ 40) := by unfold Hid; have h1 := hpj.out; have h2 : 6 * j ≤ j * d := by rw [Nat.mul_comm]; exact Nat.mul_le_mul_left _ hw6
                                      omega
        go_wp2_with fail
        refine C1.out.mono ?_
        rintro e w1 ⟨rfl, rfl⟩
        rw [hkn.out]
        go_wp2_with fail
        refine C2.out.mono ?_
        rintro e w1 ⟨rfl, rfl⟩
        rw [hvn.out]
        go_wp2_with (first | (at_builtin; refine wpList_append_own_at _ rfl _ _ 22 rfl (w.heap.size + 1 + 1 + 1) 3 i0 (.int .i64 0) 1 8 Tryz.underlying22 hi0 hz0 hz1 hz2 rfl (by decide) _ (kL lv s.data.toList j).length (ints (kL lv s.data.toList j)) rfl (HN.out.2.1.alloc _) ⟨w1.heap.size, 0, none⟩ 1 1 [.int .i64 (kAt lv s.data.toList j)] rfl rfl (news_one _ _ _) (by simp [Value.oneCell']) (by rw [len_kL]; have := hlj.out; unfold maxLen; omega) (by rw [len_kL]; have := hlj.out; omega) (by simp; omega) ?_; intro v1 w2 hown hgrow _ hat; obtain ⟨a1, cp1, rfl⟩ := own_form hown; have hpush := HN.out.pushK hown hgrow hat; have hmid := HN.out.mid hgrow (Or.inl rfl); obtain ⟨hpN, hpB⟩ := hpush; clear q0 q1 q2 q3 q4 f0 f1 f2 f3 f4 hown hgrow hat C1 C2; obtain ⟨⟨q0, q1, q2, q3, q4⟩, ⟨f0, f1, f2, f3, f4⟩⟩ := node_cells hmid.1; have HPN := hideIt hpN; have hsz2 := hpN.lt; clear hpN hmid) | (at_builtin; refine wpList_append_own_at _ rfl _ _ 22 rfl (w.heap.size + 1 + 1 + 1) 3 i0 (.int .i64 0) 1 8 Tryz.underlying22 hi0 hz0 hz1 hz2 rfl (by decide) _ (vL lv s.data.toList j).length (ints (vL lv s.data.toList j)) rfl (HPN.out.2.2.1.alloc _) ⟨w2.heap.size, 0, none⟩ 1 1 [.int .i64 (vAt lv s.data.toList j)] rfl rfl (by have := news_one (w2.setCell ⟨w.heap.size + 1 + 1, 3, none⟩ (.slice a1 ((kL lv s.data.toList j).length + 1) cp1)) (.int .i64 (vAt lv s.data.toList j)) 3; simpa using this) (by simp [Value.oneCell']) (by rw [len_vL]; have := hlj.out; unfold maxLen; omega) (by rw [len_vL]; have := hlj.out; omega) (by simp at hsz2 ⊢; omega) ?_; intro v2 w3 hown hgrow _ hat; obtain ⟨a2, cp2, rfl⟩ := own_form hown; have hpush := HPN.out.pushV hown hgrow hat; have hmid := HPN.out.mid hgrow (Or.inr rfl); obtain ⟨hpN, hpB2⟩ := hpush; clear q0 q1 q2 q3 q4 f0 f1 f2 f3 f4 hown hgrow hat; obtain ⟨⟨q0, q1, q2, q3, q4⟩, ⟨f0, f1, f2, f3, f4⟩⟩ := node_cells hmid.1; rw [← kL_succ, ← vL_succ] at hpN; have HPN2 := hideIt hpN; clear hpN hmid))
        have hB3 := hpB.trans hpB2
        have hres3 := hideIt ((hB3.block (w.heap.size + 1) (by omega)).trans hres.out)
        have hbw3 := hbw.trans (hB3.mono (by omega))
        clear hpB hpB2 hB3 hres hbw
        go_wp2
        go_roundw
        case rel =>
          refine ⟨p + (4 + v), j + 1, _, _, by go_num, hlt, ?_, ?_, HPN2.out, hres3, hbw3⟩
          · unfold Hid; rw [Nat.add_mul, hpj.out, HDV.out]; omega
          · intro i hi
            rcases Nat.lt_or_ge i j with h | h
            · exact hdig.out i h
            · obtain rfl : i = j := by omega
              rw [HDG.out]; rfl
        case measure => simp [intOf]; omega
    · obtain ⟨⟨r0, r1, r2, r3, r4⟩, ⟨e0, e1, e2, e3, e4⟩⟩ := node_cells hres.out
      by_cases hpe : p = s.size
      · have hn1 : ((p : Int) != (s.size : Int)) = false := by simp [hpe]
        have hfin : Hid (7 + j * wd lv = s.data.toList.length) := by unfold Hid; rw [HD.out, ← hpj.out, ba_size, hpe]
        have hp2 : s.size ≤ p := by omega
        clear hpe
        go_wp2
        refine bodyPost_ret (v := .tuple #[.agg #[.int .i64 lv, .int .i64 lk, .int .i64 hi, .slice ak (kL lv s.data.toList j).length ck, .slice av (vL lv s.data.toList j).length cv], .bool true]) (by simp [results, Tryz.results51, go_sem, *]) rfl ⟨Or.inl ⟨j, _, _, hfin.out, hdig.out, rfl, ?_⟩, ?_⟩
        · have hO := HN.out.2
          refine Own.mono (B := w.heap.size + 1 + 1 + 1) ?_ (by omega)
          repeat (refine Own.setCell ?_ (by show w.heap.size + 1 < _; omega) _)
          exact hO
        · repeat (refine Below.setCell ?_ (by simp) _)
          exact hbw
      · have hno : Hid (¬ entOk lv s.data.toList) := ent_no2 lv _ j (by rw [HD.out, ← hpj.out, ba_size]; exact hp) (by rw [HD.out, ← hpj.out, ba_size, HDV.out]; omega) (by rw [HD.out, ← hpj.out, ba_size]; exact hpe)
        have hn1 : ((p : Int) != (s.size : Int)) = true := by rw [bne_iff_ne]; omega
        clear hpe
        go_wp2
        refine bodyPost_ret (v := .tuple #[.agg #[.int .i64 0, .int .i64 0, .int .i64 0, .slice none 0 0, .slice none 0 0], .bool false]) (by simp [results, Tryz.results51, go_sem, *]) rfl ⟨Or.inr ⟨hno.out, rfl⟩, ?_⟩
        repeat (refine Below.setCell ?_ (by simp) _)
        exact hbw
def pickV (c n : Int) : Int := if c < 0 then (-(c + 1)) % n else c % n
theorem pickV_bd (c n : Int) (h : 1 ≤ n) : 0 ≤ pickV c n ∧ pickV c n < n := by
  unfold pickV
  split
  · exact ⟨Int.emod_nonneg _ (by omega), Int.emod_lt_of_pos _ (by omega)⟩
  · exact ⟨Int.emod_nonneg _ (by omega), Int.emod_lt_of_pos _ (by omega)⟩
set_option maxRecDepth 100000 in
set_option maxHeartbeats 800000 in
theorem pick_exact (c n : Int) (w : World) (h0 : -9223372036854775808 ≤ c) (h1 : c ≤ 9223372036854775807) (hn1 : 1 ≤ n) (hn2 : n ≤ 10000) :
    Calls Tryz.prog 26 #[.int .i64 c, .int .i64 n] w fun e w' => e = .returned (.int .i64 (pickV c n)) ∧ w' = w := by
  have hnz : (n == 0) = false := by simp; omega
  by_cases hc : c < 0
  · have HP : Hid (pickV c n = -(c + 1).tmod n) := by unfold Hid pickV; rw [if_pos hc, ← Int.neg_tmod, Int.tmod_eq_emod_of_nonneg (by omega)]
    go_enter Tryz.func26, Tryz.ntmps26
    go_wp2
    go_ret
    exact ⟨ret_int HP.out.symm, rfl⟩
  · have HP : Hid (pickV c n = c % n) := by unfold Hid pickV; rw [if_neg hc]
    go_enter Tryz.func26, Tryz.ntmps26
    go_wp2
    go_ret
    exact ⟨ret_int HP.out.symm, rfl⟩
theorem ints_at' (L : List Int) (j : Nat) (h : j < L.length) : (ints L)[j]? = some (.int .i64 (L[j]?.getD 0)) := by simp [ints, h]
end Go.Proofs.YtajobgmnmbnhiaaGreatDoor.Sap
