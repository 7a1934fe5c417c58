/- WHAT IS PROVED HERE: saplingref.Unpack answers the node of which a text is the text, in new lists of its own, and ErrText if there is none. Conditions: the text is no longer than memory bears. -/
import Derived.Test.YtajobgmnmbnhiaaDoorW8
import Derived.Test.YtajobgmnmbnhiaaDoorW11
import Derived.Deep.RegionHeld3
import Derived.Deep.DeepCutAuto
import Derived.Test.YtajobgmnmbnhiaaDoorCand
namespace Go.Proofs.YtajobgmnmbnhiaaDoor.Sap
open Go.RowKit

set_option maxRecDepth 100000 in
set_option maxHeartbeats 1600000 in
theorem refUnpack_any (s : ByteArray) (w : World) (hmax : s.size ≤ 140737488351232) :
    Calls Tryd.prog 16 #[.string s] w fun e w' => UnpR s.data.toList w' w.heap.size e ∧ Below w.heap.size w w' := by
  by_cases hl : 47 < s.size
  · have hno := hideIt (no_long (s := s.data.toList) (by rw [ba_size]; exact hl))
    go_enter Tryd.func16, Tryd.ntmps16
    go_wp2
    refine bodyPost_ret (v := .tuple #[.agg #[.int .i64 0, .int .i64 0, .int .i64 0, .slice none 0 0, .slice none 0 0], .int .i64 2]) (by simp [results, Tryd.results16, go_sem]) rfl ⟨Or.inr ⟨hno.out, rfl⟩, ?_⟩
    exact (Below.refl _ _).alloc (Nat.le_refl _) _
  by_cases hl7 : s.size < 7
  · have hno := hideIt (show ∀ n, ¬ Unp s.data.toList n from fun n hn => by have := (ents_of hn).1; rw [ba_size] at this; omega)
    go_enter Tryd.func16, Tryd.ntmps16
    go_wp2
    refine bodyPost_ret (v := .tuple #[.agg #[.int .i64 0, .int .i64 0, .int .i64 0, .slice none 0 0, .slice none 0 0], .int .i64 2]) (by simp [results, Tryd.results16, go_sem]) rfl ⟨Or.inr ⟨hno.out, rfl⟩, ?_⟩
    exact (Below.refl _ _).alloc (Nat.le_refl _) _
  · have h7 : (7 : Int) ≤ s.size := by omega
    have h1 : (1 : Int) ≤ s.size := by omega
    have h3 : (3 : Int) ≤ s.size := by omega
    obtain ⟨i0, hi0, hz0, hz1, hz2⟩ := info_parts infoInt
    obtain ⟨a0, ha0⟩ : ∃ a : Nat, wth (seg s.data.toList 0 1) = a := ⟨_, rfl⟩
    obtain ⟨a1, ha1⟩ : ∃ a : Nat, wth (seg s.data.toList 1 2) = a := ⟨_, rfl⟩
    obtain ⟨a2, ha2⟩ : ∃ a : Nat, wth (seg s.data.toList 3 4) = a := ⟨_, rfl⟩
    have HA0 := hideIt ha0
    have HA1 := hideIt ha1
    have HA2 := hideIt ha2
    clear ha0 ha1 ha2
    go_enter Tryd.func16, Tryd.ntmps16
    go_upto_region 3 with fail
    go_cut [4] (fun t wr => t = .pointer (some ⟨w.heap.size + 1, 0, none⟩) ∧ NB wr (w.heap.size + 1) a0 a1 a2 (.slice none 0 0) (.slice none 0 0) [] [] ∧ Hid (wr.heap[w.heap.size]? = some (.cells #[.int .i64 0, .int .i64 0, .int .i64 0, .slice none 0 0, .slice none 0 0] 24 (0, 0))) ∧ Below w.heap.size w wr)
    case first =>
      go_region_held3 (fun _ => True) (trivial) ((go_at_call 48; refine (worth_any _ _ (by rw [ByteArray.size_extract]; omega)).mono ?_; rintro e w' ⟨rfl, rfl⟩))
      all_goals
        go_wp2
        go_meet
        case rel =>
          have e0 : wth (List.take 1 s.data.toList) = a0 := by rw [← HA0.out]; rfl
          have e1 : wth (List.take 2 s.data.toList.tail) = a1 := by rw [← HA1.out, seg, List.drop_one]
          have e2 : wth (List.take 4 (List.drop 3 s.data.toList)) = a2 := by rw [← HA2.out]; rfl
          rw [e0, e1, e2]
          refine ⟨rfl, NB.drew (NB.new _ _ _ _ _ (by simp)), ?_, ?_⟩
          · unfold Hid
            show ((w.alloc _).alloc _).heap[w.heap.size]? = _
            rw [Below.heap_alloc _ _ _ (by simp)]; exact heap_alloc_new w _
          · exact (((Below.refl _ _).alloc (Nat.le_refl _) _).alloc (by simp) _).drew
    case rest =>
      obtain ⟨rfl, hNB, hres, hbw⟩ := hcut
      have hs1 : (1 : Int) < s.size := by omega
      have hd1 : Hid ((seg s.data.toList 1 2).headD 0 = s[1]'(by omega)) := by
        unfold Hid
        have : s.data.toList.length = s.size := ba_size s
        have h0 : seg s.data.toList 1 2 = s[1]'(by omega) :: seg s.data.toList 2 1 := by
          unfold seg
          rw [List.drop_eq_getElem_cons (by omega : 1 < s.data.toList.length)]
          rfl
        rw [h0]; rfl
      have hsb : s.size ≤ 47 := by omega
      have HN := hideIt hNB
      obtain ⟨⟨q0, q1, q2, q3, q4⟩, ⟨f0, f1, f2, f3, f4⟩⟩ := node_cells hNB.1
      have hsz := hNB.lt
      clear hNB
      by_cases hds : ((s[1]'(by omega)).toNat : Int) = 45
      · have hdb : (((s[1]'(by omega)).toNat : Int) == 45) = true := by simp [hds]
        have HD : DashOk s.data.toList (-1) 10000 :=
          Or.inl ⟨by rw [hd1.out]; exact UInt8.toNat_inj.1 (by show _ = 45; omega), rfl, rfl⟩
        clear hds hd1
        have HN2 := hideIt (NB.setEnd (x := -1) (y := 10000) HN.out)
        have hres2 := hideIt (show ((wc.setCell ⟨w.heap.size + 1, 1, none⟩ (.int .i64 (-1))).setCell ⟨w.heap.size + 1, 2, none⟩ (.int .i64 10000)).heap[w.heap.size]? = some (.cells #[.int .i64 0, .int .i64 0, .int .i64 0, .slice none 0 0, .slice none 0 0] 24 (0, 0)) by rw [Below.heap_setCell _ _ _ _ (by simp), Below.heap_setCell _ _ _ _ (by simp)]; exact hres.out)
        have hbw2 := (hbw.setCell (p := ⟨w.heap.size + 1, 1, none⟩) (by simp) (.int .i64 (-1))).setCell (p := ⟨w.heap.size + 1, 2, none⟩) (by simp) (.int .i64 10000)
        clear hbw hres
        by_cases hlv : a0 = 0
        · have hl0 : a0 ≤ 0 := by omega
          have hlb : decide (0 < a0) = false := by simp; omega
          have hlc : decide ((0 : Int) < (a0 : Int)) = false := by simp; omega
          have HWD : Hid (wd (a0 : Int) = 8) := by unfold Hid wd vw; rw [hlv]; rfl
          have HVW : Hid (vw (a0 : Int) = 4) := by unfold Hid vw; rw [hlv]; rfl
          clear hlv
          go_wp2_with fail
          clear q0 q1 q2 q3 q4 f0 f1 f2 f3 f4 hsz
          go_loopw [6] (fun a wr => ∃ (p j : Nat) (kv vv : Value), a = .int .i64 p ∧ p ≤ s.size ∧ Hid (p = 7 + j * 8) ∧ NB wr (w.heap.size + 1) a0 (-1 : Int) (10000 : Int) kv vv (kL a0 s.data.toList j) (vL a0 s.data.toList j) ∧ Hid (wr.heap[w.heap.size]? = some (.cells #[.int .i64 0, .int .i64 0, .int .i64 0, .slice none 0 0, .slice none 0 0] 24 (0, 0))) ∧ Below w.heap.size w wr) (fun a _ => s.size - (intOf a).toNat)
          case atStart => exact ⟨7, 0, _, _, rfl, by omega, by unfold Hid; omega, HN2.out, hres2, hbw2⟩
          case round =>
            obtain ⟨p, j, kv, vv, rfl, hp, hpj, hNB, hresr, hbr⟩ := hrel
            clear HN HN2 hbw2 hres2
            obtain ⟨ak, ck, rfl⟩ := own_form hNB.2.1
            obtain ⟨av, cv, rfl⟩ := own_form hNB.2.2.1
            have HN := hideIt hNB
            obtain ⟨⟨q0, q1, q2, q3, q4⟩, ⟨f0, f1, f2, f3, f4⟩⟩ := node_cells hNB.1
            have hsz := hNB.lt
            have hlj : Hid (j ≤ 40) := by unfold Hid; have := hpj.out; omega
            clear hNB
            by_cases hlt : p + 8 ≤ s.size
            · have c1 := worth_any (s.extract p (p + 4)) wr (by rw [ByteArray.size_extract]; omega)
              have c2 := worth_any (s.extract (p + 4) (p + 8)) wr (by rw [ByteArray.size_extract]; omega)
              rw [ext_seg, show ((wth (seg s.data.toList p 4) : Nat) : Int) = kAt a0 s.data.toList j by unfold kAt; rw [HWD.out, ← hpj.out]] at c1
              rw [ext_seg2 s p 8 4 rfl, show ((wth (seg s.data.toList (p + 4) 4) : Nat) : Int) = vAt a0 s.data.toList j by unfold vAt; rw [HWD.out, HVW.out, ← hpj.out]] at c2
              have C1 := hideIt c1
              have C2 := hideIt c2
              have hpl : (p : Int) + 8 ≤ s.size := by omega
              clear c1 c2
              go_wp2_with fail
              refine C1.out.mono ?_
              rintro e w1 ⟨rfl, rfl⟩
              go_wp2_with fail
              refine C2.out.mono ?_
              rintro e w1 ⟨rfl, rfl⟩
              go_wp2_with (first | (at_builtin; refine wpList_append_own_at _ rfl _ _ 22 rfl (w.heap.size + 1 + 1) 3 i0 (.int .i64 0) 1 8 Tryd.underlying22 hi0 hz0 hz1 hz2 rfl (by decide) _ (kL a0 s.data.toList j).length (ints (kL a0 s.data.toList j)) rfl (HN.out.2.1.alloc _) ⟨w1.heap.size, 0, none⟩ 1 1 [.int .i64 (kAt a0 s.data.toList j)] rfl rfl (news_one _ _ _) (by simp [Value.oneCell']) (by rw [len_kL]; have := hlj.out; unfold maxLen; omega) (by rw [len_kL]; have := hlj.out; omega) (by simp; omega) ?_; intro v1 w2 hown hgrow _ hat; obtain ⟨b1, cp1, rfl⟩ := own_form hown; have hpush := HN.out.pushK hown hgrow hat; have hmid := HN.out.mid hgrow (Or.inl rfl); obtain ⟨hpN, hpB⟩ := hpush; clear q0 q1 q2 q3 q4 f0 f1 f2 f3 f4 hown hgrow hat C1 C2; obtain ⟨⟨q0, q1, q2, q3, q4⟩, ⟨f0, f1, f2, f3, f4⟩⟩ := node_cells hmid.1; have HPN := hideIt hpN; have hsz2 := hpN.lt; clear hpN hmid) | (at_builtin; refine wpList_append_own_at _ rfl _ _ 22 rfl (w.heap.size + 1 + 1) 3 i0 (.int .i64 0) 1 8 Tryd.underlying22 hi0 hz0 hz1 hz2 rfl (by decide) _ (vL a0 s.data.toList j).length (ints (vL a0 s.data.toList j)) rfl (HPN.out.2.2.1.alloc _) ⟨w2.heap.size, 0, none⟩ 1 1 [.int .i64 (vAt a0 s.data.toList j)] rfl rfl (by have := news_one (w2.setCell ⟨w.heap.size + 1, 3, none⟩ (.slice b1 ((kL a0 s.data.toList j).length + 1) cp1)) (.int .i64 (vAt a0 s.data.toList j)) 3; simpa using this) (by simp [Value.oneCell']) (by rw [len_vL]; have := hlj.out; unfold maxLen; omega) (by rw [len_vL]; have := hlj.out; omega) (by simp at hsz2 ⊢; omega) ?_; intro v2 w3 hown hgrow _ hat; obtain ⟨b2, cp2, rfl⟩ := own_form hown; have hpush := HPN.out.pushV hown hgrow hat; have hmid := HPN.out.mid hgrow (Or.inr rfl); obtain ⟨hpN, hpB2⟩ := hpush; clear q0 q1 q2 q3 q4 f0 f1 f2 f3 f4 hown hgrow hat; obtain ⟨⟨q0, q1, q2, q3, q4⟩, ⟨f0, f1, f2, f3, f4⟩⟩ := node_cells hmid.1; rw [← kL_succ, ← vL_succ] at hpN; have HPN2 := hideIt hpN; clear hpN hmid))
              have hB3 := hpB.trans hpB2
              have hres3 := hideIt ((hB3.block w.heap.size (by omega)).trans hresr.out)
              have hbw3 := hbr.trans (hB3.mono (by omega))
              clear hpB hpB2 hB3 hresr hbr
              go_wp2
              go_roundw
              case rel =>
                refine ⟨p + 8, j + 1, _, _, by go_num, hlt, ?_, HPN2.out, hres3, hbw3⟩
                unfold Hid; rw [Nat.add_mul, hpj.out]; omega
              case measure => simp [intOf]; omega
            · obtain ⟨n, hn⟩ : ∃ n : Nd, n = ⟨(a0 : Int), (-1 : Int), (10000 : Int), kL a0 s.data.toList j, vL a0 s.data.toList j⟩ := ⟨_, rfl⟩
              have CR := hideIt (refPack_any n (.slice ak (kL a0 s.data.toList j).length ck) (.slice av (vL a0 s.data.toList j).length cv) wr (by rw [hn]; exact HN.out.2.rdK) (by rw [hn]; exact HN.out.2.rdV) (by rw [hn]; simp only [len_kL]; have := hlj.out; omega))
              have e1 : n.lv = a0 := by rw [hn]
              have e2 : n.lk = (-1 : Int) := by rw [hn]
              have e3 : n.hi = (10000 : Int) := by rw [hn]
              rw [e1, e2, e3] at CR
              have HNN := hideIt hn
              have hcand : Hid (∀ m, Unp s.data.toList m → m = n) := fun m hm => by
                rw [HNN.out, ← HA0.out]
                exact cand_eq hm HD (by rw [HA0.out, HWD.out, ba_size, ← hpj.out]; exact hp) (by rw [HA0.out, HWD.out, ba_size, ← hpj.out]; omega)
              clear e1 e2 e3 hn
              go_wp2_with fail
              refine CR.out.mono ?_
              rintro e w4 ⟨b, er, rfl, hpk, hb⟩
              have hres4 := block_below hresr.out hb
              have hn4 := block_below HN.out.1 hb
              have HO4 := hideIt (HN.out.2.below hb)
              have hb4 := step hbr hb
              obtain ⟨⟨r0, r1, r2, r3, r4⟩, ⟨g0, g1, g2, g3, g4⟩⟩ := node_cells hres4
              clear q0 q1 q2 q3 q4 f0 f1 f2 f3 f4 hb
              obtain ⟨⟨q0, q1, q2, q3, q4⟩, -⟩ := node_cells hn4
              clear hres4 hn4 hresr hbr CR HN
              by_cases hR : rightB n = true
              rotate_left
              · have hR' : rightB n = false := by simpa using hR
                unfold Pk at hpk
                rw [hR'] at hpk
                have hno := hideIt (show ∀ m, ¬ Unp s.data.toList m from fun m hm => by have := hcand.out m hm; rw [this] at hm; exact hR hm.1)
                obtain ⟨-, rfl⟩ := hpk
                clear hR hR' HD
                go_wp2
                refine bodyPost_ret (v := .tuple #[.agg #[.int .i64 0, .int .i64 0, .int .i64 0, .slice none 0 0, .slice none 0 0], .int .i64 2]) (by simp [results, Tryd.results16, go_sem, *]) rfl ⟨Or.inr ⟨hno.out, rfl⟩, ?_⟩
                repeat (refine Below.setCell ?_ (by simp) _)
                exact hb4
              · unfold Pk at hpk
                rw [hR] at hpk
                obtain ⟨hpb, rfl⟩ := hpk
                by_cases hE : packT n = s.data.toList
                · obtain rfl : b = s := ba_ext (hpb.trans hE)
                  have hU := hideIt (show Unp b.data.toList n from ⟨hR, hE⟩)
                  clear hR hE hpb HD
                  go_wp2
                  refine bodyPost_ret (v := .tuple #[.agg #[.int .i64 a0, .int .i64 (-1 : Int), .int .i64 (10000 : Int), .slice ak (kL a0 b.data.toList j).length ck, .slice av (vL a0 b.data.toList j).length cv], .int .i64 0]) (by simp [results, Tryd.results16, go_sem, *]) rfl ⟨Or.inl ⟨n, .slice ak (kL a0 b.data.toList j).length ck, .slice av (vL a0 b.data.toList j).length cv, hU.out, ?_, ?_⟩, ?_⟩
                  · rw [HNN.out]
                    refine Own.mono (B := w.heap.size + 1 + 1) ?_ (by omega)
                    repeat (refine Own.setCell ?_ (by show w.heap.size < _; omega) _)
                    exact HO4.out
                  · rw [HNN.out]
                  · repeat (refine Below.setCell ?_ (by simp) _)
                    exact hb4
                · have hne1 : (b.toList != s.toList) = true := by rw [ByteArray.toList_eq, ByteArray.toList_eq, bne_iff_ne, hpb]; exact hE
                  have hne2 : (b.toList == s.toList) = false := by rw [ByteArray.toList_eq, ByteArray.toList_eq]; exact beq_eq_false_iff_ne.2 (by rw [hpb]; exact hE)
                  have hno := hideIt (show ∀ m, ¬ Unp s.data.toList m from fun m hm => by have := hcand.out m hm; rw [this] at hm; exact hE hm.2)
                  clear hR hE hpb HD
                  go_wp2
                  refine bodyPost_ret (v := .tuple #[.agg #[.int .i64 0, .int .i64 0, .int .i64 0, .slice none 0 0, .slice none 0 0], .int .i64 2]) (by simp [results, Tryd.results16, go_sem, *]) rfl ⟨Or.inr ⟨hno.out, rfl⟩, ?_⟩
                  repeat (refine Below.setCell ?_ (by simp) _)
                  exact hb4
        · have hl0 : 0 < a0 := by omega
          have hlb : decide (0 < a0) = true := by simp; omega
          have hlc : decide ((0 : Int) < (a0 : Int)) = true := by simp; omega
          have HWD : Hid (wd (a0 : Int) = 6) := by unfold Hid wd vw; rw [if_neg (by omega)]
          have HVW : Hid (vw (a0 : Int) = 2) := by unfold Hid vw; rw [if_neg (by omega)]
          clear hlv
          go_wp2_with fail
          clear q0 q1 q2 q3 q4 f0 f1 f2 f3 f4 hsz
          go_loopw [6] (fun a wr => ∃ (p j : Nat) (kv vv : Value), a = .int .i64 p ∧ p ≤ s.size ∧ Hid (p = 7 + j * 6) ∧ NB wr (w.heap.size + 1) a0 (-1 : Int) (10000 : Int) kv vv (kL a0 s.data.toList j) (vL a0 s.data.toList j) ∧ Hid (wr.heap[w.heap.size]? = some (.cells #[.int .i64 0, .int .i64 0, .int .i64 0, .slice none 0 0, .slice none 0 0] 24 (0, 0))) ∧ Below w.heap.size w wr) (fun a _ => s.size - (intOf a).toNat)
          case atStart => exact ⟨7, 0, _, _, rfl, by omega, by unfold Hid; omega, HN2.out, hres2, hbw2⟩
          case round =>
            obtain ⟨p, j, kv, vv, rfl, hp, hpj, hNB, hresr, hbr⟩ := hrel
            clear HN HN2 hbw2 hres2
            obtain ⟨ak, ck, rfl⟩ := own_form hNB.2.1
            obtain ⟨av, cv, rfl⟩ := own_form hNB.2.2.1
            have HN := hideIt hNB
            obtain ⟨⟨q0, q1, q2, q3, q4⟩, ⟨f0, f1, f2, f3, f4⟩⟩ := node_cells hNB.1
            have hsz := hNB.lt
            have hlj : Hid (j ≤ 40) := by unfold Hid; have := hpj.out; omega
            clear hNB
            by_cases hlt : p + 6 ≤ s.size
            · have c1 := worth_any (s.extract p (p + 4)) wr (by rw [ByteArray.size_extract]; omega)
              have c2 := worth_any (s.extract (p + 4) (p + 6)) wr (by rw [ByteArray.size_extract]; omega)
              rw [ext_seg, show ((wth (seg s.data.toList p 4) : Nat) : Int) = kAt a0 s.data.toList j by unfold kAt; rw [HWD.out, ← hpj.out]] at c1
              rw [ext_seg2 s p 6 2 rfl, show ((wth (seg s.data.toList (p + 4) 2) : Nat) : Int) = vAt a0 s.data.toList j by unfold vAt; rw [HWD.out, HVW.out, ← hpj.out]] at c2
              have C1 := hideIt c1
              have C2 := hideIt c2
              have hpl : (p : Int) + 6 ≤ s.size := by omega
              clear c1 c2
              go_wp2_with fail
              refine C1.out.mono ?_
              rintro e w1 ⟨rfl, rfl⟩
              go_wp2_with fail
              refine C2.out.mono ?_
              rintro e w1 ⟨rfl, rfl⟩
              go_wp2_with (first | (at_builtin; refine wpList_append_own_at _ rfl _ _ 22 rfl (w.heap.size + 1 + 1) 3 i0 (.int .i64 0) 1 8 Tryd.underlying22 hi0 hz0 hz1 hz2 rfl (by decide) _ (kL a0 s.data.toList j).length (ints (kL a0 s.data.toList j)) rfl (HN.out.2.1.alloc _) ⟨w1.heap.size, 0, none⟩ 1 1 [.int .i64 (kAt a0 s.data.toList j)] rfl rfl (news_one _ _ _) (by simp [Value.oneCell']) (by rw [len_kL]; have := hlj.out; unfold maxLen; omega) (by rw [len_kL]; have := hlj.out; omega) (by simp; omega) ?_; intro v1 w2 hown hgrow _ hat; obtain ⟨b1, cp1, rfl⟩ := own_form hown; have hpush := HN.out.pushK hown hgrow hat; have hmid := HN.out.mid hgrow (Or.inl rfl); obtain ⟨hpN, hpB⟩ := hpush; clear q0 q1 q2 q3 q4 f0 f1 f2 f3 f4 hown hgrow hat C1 C2; obtain ⟨⟨q0, q1, q2, q3, q4⟩, ⟨f0, f1, f2, f3, f4⟩⟩ := node_cells hmid.1; have HPN := hideIt hpN; have hsz2 := hpN.lt; clear hpN hmid) | (at_builtin; refine wpList_append_own_at _ rfl _ _ 22 rfl (w.heap.size + 1 + 1) 3 i0 (.int .i64 0) 1 8 Tryd.underlying22 hi0 hz0 hz1 hz2 rfl (by decide) _ (vL a0 s.data.toList j).length (ints (vL a0 s.data.toList j)) rfl (HPN.out.2.2.1.alloc _) ⟨w2.heap.size, 0, none⟩ 1 1 [.int .i64 (vAt a0 s.data.toList j)] rfl rfl (by have := news_one (w2.setCell ⟨w.heap.size + 1, 3, none⟩ (.slice b1 ((kL a0 s.data.toList j).length + 1) cp1)) (.int .i64 (vAt a0 s.data.toList j)) 3; simpa using this) (by simp [Value.oneCell']) (by rw [len_vL]; have := hlj.out; unfold maxLen; omega) (by rw [len_vL]; have := hlj.out; omega) (by simp at hsz2 ⊢; omega) ?_; intro v2 w3 hown hgrow _ hat; obtain ⟨b2, cp2, rfl⟩ := own_form hown; have hpush := HPN.out.pushV hown hgrow hat; have hmid := HPN.out.mid hgrow (Or.inr rfl); obtain ⟨hpN, hpB2⟩ := hpush; clear q0 q1 q2 q3 q4 f0 f1 f2 f3 f4 hown hgrow hat; obtain ⟨⟨q0, q1, q2, q3, q4⟩, ⟨f0, f1, f2, f3, f4⟩⟩ := node_cells hmid.1; rw [← kL_succ, ← vL_succ] at hpN; have HPN2 := hideIt hpN; clear hpN hmid))
              have hB3 := hpB.trans hpB2
              have hres3 := hideIt ((hB3.block w.heap.size (by omega)).trans hresr.out)
              have hbw3 := hbr.trans (hB3.mono (by omega))
              clear hpB hpB2 hB3 hresr hbr
              go_wp2
              go_roundw
              case rel =>
                refine ⟨p + 6, j + 1, _, _, by go_num, hlt, ?_, HPN2.out, hres3, hbw3⟩
                unfold Hid; rw [Nat.add_mul, hpj.out]; omega
              case measure => simp [intOf]; omega
            · obtain ⟨n, hn⟩ : ∃ n : Nd, n = ⟨(a0 : Int), (-1 : Int), (10000 : Int), kL a0 s.data.toList j, vL a0 s.data.toList j⟩ := ⟨_, rfl⟩
              have CR := hideIt (refPack_any n (.slice ak (kL a0 s.data.toList j).length ck) (.slice av (vL a0 s.data.toList j).length cv) wr (by rw [hn]; exact HN.out.2.rdK) (by rw [hn]; exact HN.out.2.rdV) (by rw [hn]; simp only [len_kL]; have := hlj.out; omega))
              have e1 : n.lv = a0 := by rw [hn]
              have e2 : n.lk = (-1 : Int) := by rw [hn]
              have e3 : n.hi = (10000 : Int) := by rw [hn]
              rw [e1, e2, e3] at CR
              have HNN := hideIt hn
              have hcand : Hid (∀ m, Unp s.data.toList m → m = n) := fun m hm => by
                rw [HNN.out, ← HA0.out]
                exact cand_eq hm HD (by rw [HA0.out, HWD.out, ba_size, ← hpj.out]; exact hp) (by rw [HA0.out, HWD.out, ba_size, ← hpj.out]; omega)
              clear e1 e2 e3 hn
              go_wp2_with fail
              refine CR.out.mono ?_
              rintro e w4 ⟨b, er, rfl, hpk, hb⟩
              have hres4 := block_below hresr.out hb
              have hn4 := block_below HN.out.1 hb
              have HO4 := hideIt (HN.out.2.below hb)
              have hb4 := step hbr hb
              obtain ⟨⟨r0, r1, r2, r3, r4⟩, ⟨g0, g1, g2, g3, g4⟩⟩ := node_cells hres4
              clear q0 q1 q2 q3 q4 f0 f1 f2 f3 f4 hb
              obtain ⟨⟨q0, q1, q2, q3, q4⟩, -⟩ := node_cells hn4
              clear hres4 hn4 hresr hbr CR HN
              by_cases hR : rightB n = true
              rotate_left
              · have hR' : rightB n = false := by simpa using hR
                unfold Pk at hpk
                rw [hR'] at hpk
                have hno := hideIt (show ∀ m, ¬ Unp s.data.toList m from fun m hm => by have := hcand.out m hm; rw [this] at hm; exact hR hm.1)
                obtain ⟨-, rfl⟩ := hpk
                clear hR hR' HD
                go_wp2
                refine bodyPost_ret (v := .tuple #[.agg #[.int .i64 0, .int .i64 0, .int .i64 0, .slice none 0 0, .slice none 0 0], .int .i64 2]) (by simp [results, Tryd.results16, go_sem, *]) rfl ⟨Or.inr ⟨hno.out, rfl⟩, ?_⟩
                repeat (refine Below.setCell ?_ (by simp) _)
                exact hb4
              · unfold Pk at hpk
                rw [hR] at hpk
                obtain ⟨hpb, rfl⟩ := hpk
                by_cases hE : packT n = s.data.toList
                · obtain rfl : b = s := ba_ext (hpb.trans hE)
                  have hU := hideIt (show Unp b.data.toList n from ⟨hR, hE⟩)
                  clear hR hE hpb HD
                  go_wp2
                  refine bodyPost_ret (v := .tuple #[.agg #[.int .i64 a0, .int .i64 (-1 : Int), .int .i64 (10000 : Int), .slice ak (kL a0 b.data.toList j).length ck, .slice av (vL a0 b.data.toList j).length cv], .int .i64 0]) (by simp [results, Tryd.results16, go_sem, *]) rfl ⟨Or.inl ⟨n, .slice ak (kL a0 b.data.toList j).length ck, .slice av (vL a0 b.data.toList j).length cv, hU.out, ?_, ?_⟩, ?_⟩
                  · rw [HNN.out]
                    refine Own.mono (B := w.heap.size + 1 + 1) ?_ (by omega)
                    repeat (refine Own.setCell ?_ (by show w.heap.size < _; omega) _)
                    exact HO4.out
                  · rw [HNN.out]
                  · repeat (refine Below.setCell ?_ (by simp) _)
                    exact hb4
                · have hne1 : (b.toList != s.toList) = true := by rw [ByteArray.toList_eq, ByteArray.toList_eq, bne_iff_ne, hpb]; exact hE
                  have hne2 : (b.toList == s.toList) = false := by rw [ByteArray.toList_eq, ByteArray.toList_eq]; exact beq_eq_false_iff_ne.2 (by rw [hpb]; exact hE)
                  have hno := hideIt (show ∀ m, ¬ Unp s.data.toList m from fun m hm => by have := hcand.out m hm; rw [this] at hm; exact hE hm.2)
                  clear hR hE hpb HD
                  go_wp2
                  refine bodyPost_ret (v := .tuple #[.agg #[.int .i64 0, .int .i64 0, .int .i64 0, .slice none 0 0, .slice none 0 0], .int .i64 2]) (by simp [results, Tryd.results16, go_sem, *]) rfl ⟨Or.inr ⟨hno.out, rfl⟩, ?_⟩
                  repeat (refine Below.setCell ?_ (by simp) _)
                  exact hb4
      · have hdb : (((s[1]'(by omega)).toNat : Int) == 45) = false := by simp; omega
        have HD : DashOk s.data.toList a1 a2 :=
          Or.inr ⟨by rw [hd1.out]; intro e; rw [e] at hds; exact hds rfl, by rw [HA1.out], by rw [HA2.out]⟩
        clear hds hd1
        by_cases hlv : a0 = 0
        · have hl0 : a0 ≤ 0 := by omega
          have hlb : decide (0 < a0) = false := by simp; omega
          have hlc : decide ((0 : Int) < (a0 : Int)) = false := by simp; omega
          have HWD : Hid (wd (a0 : Int) = 8) := by unfold Hid wd vw; rw [hlv]; rfl
          have HVW : Hid (vw (a0 : Int) = 4) := by unfold Hid vw; rw [hlv]; rfl
          clear hlv
          go_wp2_with fail
          clear q0 q1 q2 q3 q4 f0 f1 f2 f3 f4 hsz
          go_loopw [6] (fun a wr => ∃ (p j : Nat) (kv vv : Value), a = .int .i64 p ∧ p ≤ s.size ∧ Hid (p = 7 + j * 8) ∧ NB wr (w.heap.size + 1) a0 (a1 : Int) (a2 : Int) kv vv (kL a0 s.data.toList j) (vL a0 s.data.toList j) ∧ Hid (wr.heap[w.heap.size]? = some (.cells #[.int .i64 0, .int .i64 0, .int .i64 0, .slice none 0 0, .slice none 0 0] 24 (0, 0))) ∧ Below w.heap.size w wr) (fun a _ => s.size - (intOf a).toNat)
          case atStart => exact ⟨7, 0, _, _, rfl, by omega, by unfold Hid; omega, HN.out, hres, hbw⟩
          case round =>
            obtain ⟨p, j, kv, vv, rfl, hp, hpj, hNB, hresr, hbr⟩ := hrel
            clear HN hbw hres
            obtain ⟨ak, ck, rfl⟩ := own_form hNB.2.1
            obtain ⟨av, cv, rfl⟩ := own_form hNB.2.2.1
            have HN := hideIt hNB
            obtain ⟨⟨q0, q1, q2, q3, q4⟩, ⟨f0, f1, f2, f3, f4⟩⟩ := node_cells hNB.1
            have hsz := hNB.lt
            have hlj : Hid (j ≤ 40) := by unfold Hid; have := hpj.out; omega
            clear hNB
            by_cases hlt : p + 8 ≤ s.size
            · have c1 := worth_any (s.extract p (p + 4)) wr (by rw [ByteArray.size_extract]; omega)
              have c2 := worth_any (s.extract (p + 4) (p + 8)) wr (by rw [ByteArray.size_extract]; omega)
              rw [ext_seg, show ((wth (seg s.data.toList p 4) : Nat) : Int) = kAt a0 s.data.toList j by unfold kAt; rw [HWD.out, ← hpj.out]] at c1
              rw [ext_seg2 s p 8 4 rfl, show ((wth (seg s.data.toList (p + 4) 4) : Nat) : Int) = vAt a0 s.data.toList j by unfold vAt; rw [HWD.out, HVW.out, ← hpj.out]] at c2
              have C1 := hideIt c1
              have C2 := hideIt c2
              have hpl : (p : Int) + 8 ≤ s.size := by omega
              clear c1 c2
              go_wp2_with fail
              refine C1.out.mono ?_
              rintro e w1 ⟨rfl, rfl⟩
              go_wp2_with fail
              refine C2.out.mono ?_
              rintro e w1 ⟨rfl, rfl⟩
              go_wp2_with (first | (at_builtin; refine wpList_append_own_at _ rfl _ _ 22 rfl (w.heap.size + 1 + 1) 3 i0 (.int .i64 0) 1 8 Tryd.underlying22 hi0 hz0 hz1 hz2 rfl (by decide) _ (kL a0 s.data.toList j).length (ints (kL a0 s.data.toList j)) rfl (HN.out.2.1.alloc _) ⟨w1.heap.size, 0, none⟩ 1 1 [.int .i64 (kAt a0 s.data.toList j)] rfl rfl (news_one _ _ _) (by simp [Value.oneCell']) (by rw [len_kL]; have := hlj.out; unfold maxLen; omega) (by rw [len_kL]; have := hlj.out; omega) (by simp; omega) ?_; intro v1 w2 hown hgrow _ hat; obtain ⟨b1, cp1, rfl⟩ := own_form hown; have hpush := HN.out.pushK hown hgrow hat; have hmid := HN.out.mid hgrow (Or.inl rfl); obtain ⟨hpN, hpB⟩ := hpush; clear q0 q1 q2 q3 q4 f0 f1 f2 f3 f4 hown hgrow hat C1 C2; obtain ⟨⟨q0, q1, q2, q3, q4⟩, ⟨f0, f1, f2, f3, f4⟩⟩ := node_cells hmid.1; have HPN := hideIt hpN; have hsz2 := hpN.lt; clear hpN hmid) | (at_builtin; refine wpList_append_own_at _ rfl _ _ 22 rfl (w.heap.size + 1 + 1) 3 i0 (.int .i64 0) 1 8 Tryd.underlying22 hi0 hz0 hz1 hz2 rfl (by decide) _ (vL a0 s.data.toList j).length (ints (vL a0 s.data.toList j)) rfl (HPN.out.2.2.1.alloc _) ⟨w2.heap.size, 0, none⟩ 1 1 [.int .i64 (vAt a0 s.data.toList j)] rfl rfl (by have := news_one (w2.setCell ⟨w.heap.size + 1, 3, none⟩ (.slice b1 ((kL a0 s.data.toList j).length + 1) cp1)) (.int .i64 (vAt a0 s.data.toList j)) 3; simpa using this) (by simp [Value.oneCell']) (by rw [len_vL]; have := hlj.out; unfold maxLen; omega) (by rw [len_vL]; have := hlj.out; omega) (by simp at hsz2 ⊢; omega) ?_; intro v2 w3 hown hgrow _ hat; obtain ⟨b2, cp2, rfl⟩ := own_form hown; have hpush := HPN.out.pushV hown hgrow hat; have hmid := HPN.out.mid hgrow (Or.inr rfl); obtain ⟨hpN, hpB2⟩ := hpush; clear q0 q1 q2 q3 q4 f0 f1 f2 f3 f4 hown hgrow hat; obtain ⟨⟨q0, q1, q2, q3, q4⟩, ⟨f0, f1, f2, f3, f4⟩⟩ := node_cells hmid.1; rw [← kL_succ, ← vL_succ] at hpN; have HPN2 := hideIt hpN; clear hpN hmid))
              have hB3 := hpB.trans hpB2
              have hres3 := hideIt ((hB3.block w.heap.size (by omega)).trans hresr.out)
              have hbw3 := hbr.trans (hB3.mono (by omega))
              clear hpB hpB2 hB3 hresr hbr
              go_wp2
              go_roundw
              case rel =>
                refine ⟨p + 8, j + 1, _, _, by go_num, hlt, ?_, HPN2.out, hres3, hbw3⟩
                unfold Hid; rw [Nat.add_mul, hpj.out]; omega
              case measure => simp [intOf]; omega
            · obtain ⟨n, hn⟩ : ∃ n : Nd, n = ⟨(a0 : Int), (a1 : Int), (a2 : Int), kL a0 s.data.toList j, vL a0 s.data.toList j⟩ := ⟨_, rfl⟩
              have CR := hideIt (refPack_any n (.slice ak (kL a0 s.data.toList j).length ck) (.slice av (vL a0 s.data.toList j).length cv) wr (by rw [hn]; exact HN.out.2.rdK) (by rw [hn]; exact HN.out.2.rdV) (by rw [hn]; simp only [len_kL]; have := hlj.out; omega))
              have e1 : n.lv = a0 := by rw [hn]
              have e2 : n.lk = (a1 : Int) := by rw [hn]
              have e3 : n.hi = (a2 : Int) := by rw [hn]
              rw [e1, e2, e3] at CR
              have HNN := hideIt hn
              have hcand : Hid (∀ m, Unp s.data.toList m → m = n) := fun m hm => by
                rw [HNN.out, ← HA0.out]
                exact cand_eq hm HD (by rw [HA0.out, HWD.out, ba_size, ← hpj.out]; exact hp) (by rw [HA0.out, HWD.out, ba_size, ← hpj.out]; omega)
              clear e1 e2 e3 hn
              go_wp2_with fail
              refine CR.out.mono ?_
              rintro e w4 ⟨b, er, rfl, hpk, hb⟩
              have hres4 := block_below hresr.out hb
              have hn4 := block_below HN.out.1 hb
              have HO4 := hideIt (HN.out.2.below hb)
              have hb4 := step hbr hb
              obtain ⟨⟨r0, r1, r2, r3, r4⟩, ⟨g0, g1, g2, g3, g4⟩⟩ := node_cells hres4
              clear q0 q1 q2 q3 q4 f0 f1 f2 f3 f4 hb
              obtain ⟨⟨q0, q1, q2, q3, q4⟩, -⟩ := node_cells hn4
              clear hres4 hn4 hresr hbr CR HN
              by_cases hR : rightB n = true
              rotate_left
              · have hR' : rightB n = false := by simpa using hR
                unfold Pk at hpk
                rw [hR'] at hpk
                have hno := hideIt (show ∀ m, ¬ Unp s.data.toList m from fun m hm => by have := hcand.out m hm; rw [this] at hm; exact hR hm.1)
                obtain ⟨-, rfl⟩ := hpk
                clear hR hR' HD
                go_wp2
                refine bodyPost_ret (v := .tuple #[.agg #[.int .i64 0, .int .i64 0, .int .i64 0, .slice none 0 0, .slice none 0 0], .int .i64 2]) (by simp [results, Tryd.results16, go_sem, *]) rfl ⟨Or.inr ⟨hno.out, rfl⟩, ?_⟩
                repeat (refine Below.setCell ?_ (by simp) _)
                exact hb4
              · unfold Pk at hpk
                rw [hR] at hpk
                obtain ⟨hpb, rfl⟩ := hpk
                by_cases hE : packT n = s.data.toList
                · obtain rfl : b = s := ba_ext (hpb.trans hE)
                  have hU := hideIt (show Unp b.data.toList n from ⟨hR, hE⟩)
                  clear hR hE hpb HD
                  go_wp2
                  refine bodyPost_ret (v := .tuple #[.agg #[.int .i64 a0, .int .i64 (a1 : Int), .int .i64 (a2 : Int), .slice ak (kL a0 b.data.toList j).length ck, .slice av (vL a0 b.data.toList j).length cv], .int .i64 0]) (by simp [results, Tryd.results16, go_sem, *]) rfl ⟨Or.inl ⟨n, .slice ak (kL a0 b.data.toList j).length ck, .slice av (vL a0 b.data.toList j).length cv, hU.out, ?_, ?_⟩, ?_⟩
                  · rw [HNN.out]
                    refine Own.mono (B := w.heap.size + 1 + 1) ?_ (by omega)
                    repeat (refine Own.setCell ?_ (by show w.heap.size < _; omega) _)
                    exact HO4.out
                  · rw [HNN.out]
                  · repeat (refine Below.setCell ?_ (by simp) _)
                    exact hb4
                · have hne1 : (b.toList != s.toList) = true := by rw [ByteArray.toList_eq, ByteArray.toList_eq, bne_iff_ne, hpb]; exact hE
                  have hne2 : (b.toList == s.toList) = false := by rw [ByteArray.toList_eq, ByteArray.toList_eq]; exact beq_eq_false_iff_ne.2 (by rw [hpb]; exact hE)
                  have hno := hideIt (show ∀ m, ¬ Unp s.data.toList m from fun m hm => by have := hcand.out m hm; rw [this] at hm; exact hE hm.2)
                  clear hR hE hpb HD
                  go_wp2
                  refine bodyPost_ret (v := .tuple #[.agg #[.int .i64 0, .int .i64 0, .int .i64 0, .slice none 0 0, .slice none 0 0], .int .i64 2]) (by simp [results, Tryd.results16, go_sem, *]) rfl ⟨Or.inr ⟨hno.out, rfl⟩, ?_⟩
                  repeat (refine Below.setCell ?_ (by simp) _)
                  exact hb4
        · have hl0 : 0 < a0 := by omega
          have hlb : decide (0 < a0) = true := by simp; omega
          have hlc : decide ((0 : Int) < (a0 : Int)) = true := by simp; omega
          have HWD : Hid (wd (a0 : Int) = 6) := by unfold Hid wd vw; rw [if_neg (by omega)]
          have HVW : Hid (vw (a0 : Int) = 2) := by unfold Hid vw; rw [if_neg (by omega)]
          clear hlv
          go_wp2_with fail
          clear q0 q1 q2 q3 q4 f0 f1 f2 f3 f4 hsz
          go_loopw [6] (fun a wr => ∃ (p j : Nat) (kv vv : Value), a = .int .i64 p ∧ p ≤ s.size ∧ Hid (p = 7 + j * 6) ∧ NB wr (w.heap.size + 1) a0 (a1 : Int) (a2 : Int) kv vv (kL a0 s.data.toList j) (vL a0 s.data.toList j) ∧ Hid (wr.heap[w.heap.size]? = some (.cells #[.int .i64 0, .int .i64 0, .int .i64 0, .slice none 0 0, .slice none 0 0] 24 (0, 0))) ∧ Below w.heap.size w wr) (fun a _ => s.size - (intOf a).toNat)
          case atStart => exact ⟨7, 0, _, _, rfl, by omega, by unfold Hid; omega, HN.out, hres, hbw⟩
          case round =>
            obtain ⟨p, j, kv, vv, rfl, hp, hpj, hNB, hresr, hbr⟩ := hrel
            clear HN hbw hres
            obtain ⟨ak, ck, rfl⟩ := own_form hNB.2.1
            obtain ⟨av, cv, rfl⟩ := own_form hNB.2.2.1
            have HN := hideIt hNB
            obtain ⟨⟨q0, q1, q2, q3, q4⟩, ⟨f0, f1, f2, f3, f4⟩⟩ := node_cells hNB.1
            have hsz := hNB.lt
            have hlj : Hid (j ≤ 40) := by unfold Hid; have := hpj.out; omega
            clear hNB
            by_cases hlt : p + 6 ≤ s.size
            · have c1 := worth_any (s.extract p (p + 4)) wr (by rw [ByteArray.size_extract]; omega)
              have c2 := worth_any (s.extract (p + 4) (p + 6)) wr (by rw [ByteArray.size_extract]; omega)
              rw [ext_seg, show ((wth (seg s.data.toList p 4) : Nat) : Int) = kAt a0 s.data.toList j by unfold kAt; rw [HWD.out, ← hpj.out]] at c1
              rw [ext_seg2 s p 6 2 rfl, show ((wth (seg s.data.toList (p + 4) 2) : Nat) : Int) = vAt a0 s.data.toList j by unfold vAt; rw [HWD.out, HVW.out, ← hpj.out]] at c2
              have C1 := hideIt c1
              have C2 := hideIt c2
              have hpl : (p : Int) + 6 ≤ s.size := by omega
              clear c1 c2
              go_wp2_with fail
              refine C1.out.mono ?_
              rintro e w1 ⟨rfl, rfl⟩
              go_wp2_with fail
              refine C2.out.mono ?_
              rintro e w1 ⟨rfl, rfl⟩
              go_wp2_with (first | (at_builtin; refine wpList_append_own_at _ rfl _ _ 22 rfl (w.heap.size + 1 + 1) 3 i0 (.int .i64 0) 1 8 Tryd.underlying22 hi0 hz0 hz1 hz2 rfl (by decide) _ (kL a0 s.data.toList j).length (ints (kL a0 s.data.toList j)) rfl (HN.out.2.1.alloc _) ⟨w1.heap.size, 0, none⟩ 1 1 [.int .i64 (kAt a0 s.data.toList j)] rfl rfl (news_one _ _ _) (by simp [Value.oneCell']) (by rw [len_kL]; have := hlj.out; unfold maxLen; omega) (by rw [len_kL]; have := hlj.out; omega) (by simp; omega) ?_; intro v1 w2 hown hgrow _ hat; obtain ⟨b1, cp1, rfl⟩ := own_form hown; have hpush := HN.out.pushK hown hgrow hat; have hmid := HN.out.mid hgrow (Or.inl rfl); obtain ⟨hpN, hpB⟩ := hpush; clear q0 q1 q2 q3 q4 f0 f1 f2 f3 f4 hown hgrow hat C1 C2; obtain ⟨⟨q0, q1, q2, q3, q4⟩, ⟨f0, f1, f2, f3, f4⟩⟩ := node_cells hmid.1; have HPN := hideIt hpN; have hsz2 := hpN.lt; clear hpN hmid) | (at_builtin; refine wpList_append_own_at _ rfl _ _ 22 rfl (w.heap.size + 1 + 1) 3 i0 (.int .i64 0) 1 8 Tryd.underlying22 hi0 hz0 hz1 hz2 rfl (by decide) _ (vL a0 s.data.toList j).length (ints (vL a0 s.data.toList j)) rfl (HPN.out.2.2.1.alloc _) ⟨w2.heap.size, 0, none⟩ 1 1 [.int .i64 (vAt a0 s.data.toList j)] rfl rfl (by have := news_one (w2.setCell ⟨w.heap.size + 1, 3, none⟩ (.slice b1 ((kL a0 s.data.toList j).length + 1) cp1)) (.int .i64 (vAt a0 s.data.toList j)) 3; simpa using this) (by simp [Value.oneCell']) (by rw [len_vL]; have := hlj.out; unfold maxLen; omega) (by rw [len_vL]; have := hlj.out; omega) (by simp at hsz2 ⊢; omega) ?_; intro v2 w3 hown hgrow _ hat; obtain ⟨b2, cp2, rfl⟩ := own_form hown; have hpush := HPN.out.pushV hown hgrow hat; have hmid := HPN.out.mid hgrow (Or.inr rfl); obtain ⟨hpN, hpB2⟩ := hpush; clear q0 q1 q2 q3 q4 f0 f1 f2 f3 f4 hown hgrow hat; obtain ⟨⟨q0, q1, q2, q3, q4⟩, ⟨f0, f1, f2, f3, f4⟩⟩ := node_cells hmid.1; rw [← kL_succ, ← vL_succ] at hpN; have HPN2 := hideIt hpN; clear hpN hmid))
              have hB3 := hpB.trans hpB2
              have hres3 := hideIt ((hB3.block w.heap.size (by omega)).trans hresr.out)
              have hbw3 := hbr.trans (hB3.mono (by omega))
              clear hpB hpB2 hB3 hresr hbr
              go_wp2
              go_roundw
              case rel =>
                refine ⟨p + 6, j + 1, _, _, by go_num, hlt, ?_, HPN2.out, hres3, hbw3⟩
                unfold Hid; rw [Nat.add_mul, hpj.out]; omega
              case measure => simp [intOf]; omega
            · obtain ⟨n, hn⟩ : ∃ n : Nd, n = ⟨(a0 : Int), (a1 : Int), (a2 : Int), kL a0 s.data.toList j, vL a0 s.data.toList j⟩ := ⟨_, rfl⟩
              have CR := hideIt (refPack_any n (.slice ak (kL a0 s.data.toList j).length ck) (.slice av (vL a0 s.data.toList j).length cv) wr (by rw [hn]; exact HN.out.2.rdK) (by rw [hn]; exact HN.out.2.rdV) (by rw [hn]; simp only [len_kL]; have := hlj.out; omega))
              have e1 : n.lv = a0 := by rw [hn]
              have e2 : n.lk = (a1 : Int) := by rw [hn]
              have e3 : n.hi = (a2 : Int) := by rw [hn]
              rw [e1, e2, e3] at CR
              have HNN := hideIt hn
              have hcand : Hid (∀ m, Unp s.data.toList m → m = n) := fun m hm => by
                rw [HNN.out, ← HA0.out]
                exact cand_eq hm HD (by rw [HA0.out, HWD.out, ba_size, ← hpj.out]; exact hp) (by rw [HA0.out, HWD.out, ba_size, ← hpj.out]; omega)
              clear e1 e2 e3 hn
              go_wp2_with fail
              refine CR.out.mono ?_
              rintro e w4 ⟨b, er, rfl, hpk, hb⟩
              have hres4 := block_below hresr.out hb
              have hn4 := block_below HN.out.1 hb
              have HO4 := hideIt (HN.out.2.below hb)
              have hb4 := step hbr hb
              obtain ⟨⟨r0, r1, r2, r3, r4⟩, ⟨g0, g1, g2, g3, g4⟩⟩ := node_cells hres4
              clear q0 q1 q2 q3 q4 f0 f1 f2 f3 f4 hb
              obtain ⟨⟨q0, q1, q2, q3, q4⟩, -⟩ := node_cells hn4
              clear hres4 hn4 hresr hbr CR HN
              by_cases hR : rightB n = true
              rotate_left
              · have hR' : rightB n = false := by simpa using hR
                unfold Pk at hpk
                rw [hR'] at hpk
                have hno := hideIt (show ∀ m, ¬ Unp s.data.toList m from fun m hm => by have := hcand.out m hm; rw [this] at hm; exact hR hm.1)
                obtain ⟨-, rfl⟩ := hpk
                clear hR hR' HD
                go_wp2
                refine bodyPost_ret (v := .tuple #[.agg #[.int .i64 0, .int .i64 0, .int .i64 0, .slice none 0 0, .slice none 0 0], .int .i64 2]) (by simp [results, Tryd.results16, go_sem, *]) rfl ⟨Or.inr ⟨hno.out, rfl⟩, ?_⟩
                repeat (refine Below.setCell ?_ (by simp) _)
                exact hb4
              · unfold Pk at hpk
                rw [hR] at hpk
                obtain ⟨hpb, rfl⟩ := hpk
                by_cases hE : packT n = s.data.toList
                · obtain rfl : b = s := ba_ext (hpb.trans hE)
                  have hU := hideIt (show Unp b.data.toList n from ⟨hR, hE⟩)
                  clear hR hE hpb HD
                  go_wp2
                  refine bodyPost_ret (v := .tuple #[.agg #[.int .i64 a0, .int .i64 (a1 : Int), .int .i64 (a2 : Int), .slice ak (kL a0 b.data.toList j).length ck, .slice av (vL a0 b.data.toList j).length cv], .int .i64 0]) (by simp [results, Tryd.results16, go_sem, *]) rfl ⟨Or.inl ⟨n, .slice ak (kL a0 b.data.toList j).length ck, .slice av (vL a0 b.data.toList j).length cv, hU.out, ?_, ?_⟩, ?_⟩
                  · rw [HNN.out]
                    refine Own.mono (B := w.heap.size + 1 + 1) ?_ (by omega)
                    repeat (refine Own.setCell ?_ (by show w.heap.size < _; omega) _)
                    exact HO4.out
                  · rw [HNN.out]
                  · repeat (refine Below.setCell ?_ (by simp) _)
                    exact hb4
                · have hne1 : (b.toList != s.toList) = true := by rw [ByteArray.toList_eq, ByteArray.toList_eq, bne_iff_ne, hpb]; exact hE
                  have hne2 : (b.toList == s.toList) = false := by rw [ByteArray.toList_eq, ByteArray.toList_eq]; exact beq_eq_false_iff_ne.2 (by rw [hpb]; exact hE)
                  have hno := hideIt (show ∀ m, ¬ Unp s.data.toList m from fun m hm => by have := hcand.out m hm; rw [this] at hm; exact hE hm.2)
                  clear hR hE hpb HD
                  go_wp2
                  refine bodyPost_ret (v := .tuple #[.agg #[.int .i64 0, .int .i64 0, .int .i64 0, .slice none 0 0, .slice none 0 0], .int .i64 2]) (by simp [results, Tryd.results16, go_sem, *]) rfl ⟨Or.inr ⟨hno.out, rfl⟩, ?_⟩
                  repeat (refine Below.setCell ?_ (by simp) _)
                  exact hb4
end Go.Proofs.YtajobgmnmbnhiaaDoor.Sap
