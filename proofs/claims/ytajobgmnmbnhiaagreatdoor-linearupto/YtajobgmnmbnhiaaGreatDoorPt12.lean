/- WHAT IS PROVED HERE: tree.Next asks for Read of its page. Conditions: named at each theorem. -/
import Derived.Test.YtajobgmnmbnhiaaGreatDoorPt11
import Derived.Deep.RegionHeld3
import Derived.Deep.DeepCutAuto
namespace Go.Proofs.YtajobgmnmbnhiaaGreatDoor.Sap
open Go.RowKit
set_option maxRecDepth 100000 in
set_option maxHeartbeats 1600000 in
theorem next_read (s : St) (t : ByteArray) (w : World) (ht : t.data.toList = frT s) (hok : StOk s) (hsw : s.sw = ⟨#[]⟩) :
    Calls Tryz.prog 42 #[.string t] w fun e w' => e = .returned (.tuple #[.agg #[.int .i64 1, .int .i64 s.pg, .int .i64 0, .string ⟨#[]⟩], .int .i64 0]) ∧ Below w.heap.size w w' := by
  have N0 := hideIt (heap_alloc_new w (.cells #[.int .i64 0, .int .i64 0, .int .i64 0, .string ⟨#[]⟩] 94))
  have B0 := hideIt ((Below.refl w.heap.size w).alloc (Nat.le_refl _) (.cells #[.int .i64 0, .int .i64 0, .int .i64 0, .string ⟨#[]⟩] 94))
  have C := hideIt (readFrame_yes s t (w.alloc (.cells #[.int .i64 0, .int .i64 0, .int .i64 0, .string ⟨#[]⟩] 94)) ht hok)
  have hsb : s.sw.toList.isEmpty = true := by rw [hsw, ByteArray.toList_eq]; rfl
  clear ht hok
  go_enter Tryz.func42, Tryz.ntmps42
  go_wp2_with fail
  refine C.out.mono ?_
  rintro e w1 ⟨⟨kv, vv, bv, pv, xv, yv, hO, rfl⟩, hb⟩
  obtain ⟨ak, ck, rfl⟩ := own_form hO.keys
  obtain ⟨av, cv, rfl⟩ := own_form hO.vals
  obtain ⟨ab, cb, rfl⟩ := own_form hO.bel
  obtain ⟨ap, cp, rfl⟩ := own_form hO.pts
  obtain ⟨ax, cx, rfl⟩ := own_form hO.sp
  obtain ⟨ay, cy, rfl⟩ := own_form hO.sv
  have N1 := hideIt (block_below N0.out hb)
  have B1 := hideIt (step B0.out hb)
  clear hb hO C
  have q0 := cellOf N1.out 0 _ rfl
  have q1 := cellOf N1.out 1 _ rfl
  have q2 := cellOf N1.out 2 _ rfl
  have q3 := cellOf N1.out 3 _ rfl
  have f0 := Go.Joins.unfrozen_of_block N1.out 0
  have f1 := Go.Joins.unfrozen_of_block N1.out 1
  have f2 := Go.Joins.unfrozen_of_block N1.out 2
  have f3 := Go.Joins.unfrozen_of_block N1.out 3
  have hsz := lt_of_block N1.out
  go_wp2
  refine bodyPost_ret (v := .tuple #[.agg #[.int .i64 1, .int .i64 s.pg, .int .i64 0, .string ⟨#[]⟩], .int .i64 0]) (by simp [results, Tryz.results42, go_sem, *]) rfl ⟨rfl, ?_⟩
  refine Below.alloc ?_ (by simpa using B1.out.size) _
  repeat (refine Below.setCell ?_ (by simp) _)
  exact B1.out
def wantV (s : St) : Int := if 0 < s.lv then s.low else s.bel.getLast?.getD s.key
set_option maxRecDepth 100000 in
set_option maxHeartbeats 1600000 in
theorem wanted_any (s : St) (kv vv bv pv xv yv : Value) (w : World) (hv : StV w s kv vv bv pv xv yv) (hok : StI s) :
    Calls Tryz.prog 81 #[.agg #[.int .i64 s.kd, .int .i64 s.key, .int .i64 s.val, .int .i64 s.step, .int .i64 s.pg, kv, vv, bv, pv, .string s.sw, .int .i64 s.ver, xv, yv, .int .i64 s.laid, .int .i64 s.lv, .int .i64 s.low, .int .i64 s.ch, .int .i64 s.pt]] w fun e w' => e = .returned (.int .i64 (wantV s)) ∧ Below w.heap.size w w' := by
  obtain ⟨ak, ck, rfl⟩ := hv.keys.len
  obtain ⟨av, cv, rfl⟩ := hv.vals.len
  obtain ⟨ab, cb, rfl⟩ := hv.bel.len
  obtain ⟨ap, cp, rfl⟩ := hv.pts.len
  obtain ⟨ax, cx, rfl⟩ := hv.sp.len
  obtain ⟨ay, cy, rfl⟩ := hv.sv.len
  have HR := hideIt hv.bel
  have hb64 := hok.belL
  have B0 : ∀ o, Hid (Below w.heap.size w (w.alloc o)) := fun o => (Below.refl _ _).alloc (Nat.le_refl _) o
  by_cases hlv : 0 < s.lv
  · have HW : Hid (wantV s = s.low) := by unfold Hid wantV; rw [if_pos hlv]
    clear hv hok HR hb64
    go_enter Tryz.func81, Tryz.ntmps81
    go_wp2
    go_ret
    exact ⟨ret_int HW.out.symm, (B0 _).out⟩
  have hlv2 : decide (0 < s.lv) = false := decide_eq_false hlv
  obtain ⟨m, hm⟩ : ∃ m, s.bel.length = m := ⟨_, rfl⟩
  rw [hm] at HR hb64 ⊢
  cases m with
  | zero =>
    have HW : Hid (wantV s = s.key) := by unfold Hid wantV; rw [if_neg hlv, List.eq_nil_of_length_eq_zero hm]; rfl
    clear hv hok hm hlv
    go_enter Tryz.func81, Tryz.ntmps81
    go_wp2
    go_ret
    exact ⟨ret_int HW.out.symm, (B0 _).out⟩
  | succ j =>
    obtain ⟨b1, o1, rfl, -, x1⟩ := HR.out.elem j (by omega)
    have y1 : ∀ p, (w.alloc p).cell? ⟨b1, o1 + j, none⟩ = some (.int .i64 (s.bel[j]?.getD 0)) := fun p => x1 _ ((Below.refl _ _).alloc (Nat.le_refl _) p)
    have HW : Hid (wantV s = s.bel[j]?.getD 0) := by
      unfold Hid wantV
      rw [if_neg hlv, List.getLast?_eq_getElem?, hm, Nat.add_sub_cancel, List.getElem?_eq_getElem (by omega)]; rfl
    obtain ⟨y, hy⟩ : ∃ y, s.bel[j]?.getD 0 = y := ⟨_, rfl⟩
    rw [hy] at y1 HW
    clear hv hok hm x1 hy hlv
    go_enter Tryz.func81, Tryz.ntmps81
    go_wp2
    go_ret
    exact ⟨ret_int HW.out.symm, (B0 _).out⟩
def chl (ks vs : List Int) (key : Int) : Nat → Int
  | 0 => -1
  | k + 1 => if ks[k]?.getD 0 ≤ key then vs[k]?.getD 0 else chl ks vs key k
def onwV (n : Nd) (key : Int) : Int := if n.hi ≤ key then n.lk else chl n.ks n.vs key n.ks.length
set_option maxRecDepth 100000 in
set_option maxHeartbeats 1600000 in
theorem onward_any (n : Nd) (kv vv : Value) (key : Int) (w : World) (hk : Rd w kv n.ks) (hv : Rd w vv n.vs) (hl : n.ks.length = n.vs.length) (h6 : n.ks.length ≤ 6) :
    Calls Tryz.prog 88 #[.agg #[.int .i64 n.lv, .int .i64 n.lk, .int .i64 n.hi, kv, vv], .int .i64 key] w fun e w' => e = .returned (.int .i64 (onwV n key)) ∧ Below w.heap.size w w' := by
  have HK := hideIt hk
  have HV := hideIt hv
  obtain ⟨ak, ck, rfl⟩ := hk.len
  obtain ⟨av, cv, rfl⟩ := hv.len
  have B0 : ∀ o, Hid (Below w.heap.size w (w.alloc o)) := fun o => (Below.refl _ _).alloc (Nat.le_refl _) o
  obtain ⟨m, hm⟩ : ∃ m, n.ks.length = m := ⟨_, rfl⟩
  rw [← hl] at HV ⊢
  rw [hm] at HK HV h6 ⊢
  by_cases hh : n.hi ≤ key
  · have HW : Hid (onwV n key = n.lk) := by unfold Hid onwV; rw [if_pos hh]
    clear hk hv hl hm
    go_enter Tryz.func88, Tryz.ntmps88
    go_wp2
    go_ret
    exact ⟨ret_int HW.out.symm, (B0 _).out⟩
  · have HW : Hid (onwV n key = chl n.ks n.vs key m) := by unfold Hid onwV; rw [if_neg hh, hm]
    have hh2 : key < n.hi := by omega
    clear hk hv hl hm hh
    go_enter Tryz.func88, Tryz.ntmps88
    go_wp2
    go_loopw [5, 6] (fun t i wr => ∃ k : Nat, k ≤ m ∧ i = .int .i64 k ∧ t = .int .i64 (chl n.ks n.vs key k) ∧ wr = w.alloc (.cells #[.int .i64 n.lv, .int .i64 n.lk, .int .i64 n.hi, .slice ak m ck, .slice av m cv] 67)) (fun _ i _ => m - (intOf i).toNat)
    case atStart => exact ⟨0, Nat.zero_le _, rfl, rfl, rfl⟩
    case round =>
      obtain ⟨k, hk, rfl, rfl, rfl⟩ := hrel
      by_cases hlt : k < m
      · obtain ⟨b1, o1, rfl, -, x1⟩ := HK.out.elem k hlt
        obtain ⟨b2, o2, rfl, -, x2⟩ := HV.out.elem k hlt
        have y1 : ∀ p, (w.alloc p).cell? ⟨b1, o1 + k, none⟩ = some (.int .i64 (n.ks[k]?.getD 0)) := fun p => x1 _ ((Below.refl _ _).alloc (Nat.le_refl _) p)
        have y2 : ∀ p, (w.alloc p).cell? ⟨b2, o2 + k, none⟩ = some (.int .i64 (n.vs[k]?.getD 0)) := fun p => x2 _ ((Below.refl _ _).alloc (Nat.le_refl _) p)
        have HC : Hid (chl n.ks n.vs key (k + 1) = if n.ks[k]?.getD 0 ≤ key then n.vs[k]?.getD 0 else chl n.ks n.vs key k) := rfl
        obtain ⟨a, ha⟩ : ∃ y, n.ks[k]?.getD 0 = y := ⟨_, rfl⟩
        obtain ⟨b, hb⟩ : ∃ y, n.vs[k]?.getD 0 = y := ⟨_, rfl⟩
        rw [ha] at y1 HC
        rw [hb] at y2 HC
        have hkk : (0 : Int) ≤ (k : Int) := by omega
        have hkl : (k : Int) < (m : Int) := by omega
        clear x1 x2 ha hb
        by_cases hak : a ≤ key
        · rw [if_pos hak] at HC
          go_wp2
          go_roundw
          case rel => exact ⟨k + 1, by omega, by go_num, by rw [HC.out], by trivial⟩
          case measure => simp [intOf]; omega
        · rw [if_neg hak] at HC
          have hak2 : key < a := by omega
          clear hak
          go_wp2
          go_roundw
          case rel => exact ⟨k + 1, by omega, by go_num, by rw [HC.out], by trivial⟩
          case measure => simp [intOf]; omega
      · obtain rfl : k = m := by omega
        go_wp2
        go_ret
        exact ⟨ret_int HW.out.symm, (B0 _).out⟩
def OnR (s : St) (e : Ending) : Prop := ∃ c : ByteArray, e = .returned (.tuple #[.string c, .agg ans0, .bool false, .int .i64 0]) ∧ c.data.toList = frT s
set_option maxRecDepth 100000 in
set_option maxHeartbeats 1600000 in
theorem goOn_any (s : St) (kv vv bv pv xv yv : Value) (w : World) (htab : Tab w) (hv : StV w s kv vv bv pv xv yv) (hi : StI { s with step := s.step + 1 }) (hs : s.step ≤ 1000000000) (hs0 : 0 ≤ s.step) :
    Calls Tryz.prog 94 #[.agg #[.int .i64 s.kd, .int .i64 s.key, .int .i64 s.val, .int .i64 s.step, .int .i64 s.pg, kv, vv, bv, pv, .string s.sw, .int .i64 s.ver, xv, yv, .int .i64 s.laid, .int .i64 s.lv, .int .i64 s.low, .int .i64 s.ch, .int .i64 s.pt]] w fun e w' => OnR { s with step := s.step + 1 } e ∧ Below w.heap.size w w' := by
  obtain ⟨ak, ck, rfl⟩ := hv.keys.len
  obtain ⟨av, cv, rfl⟩ := hv.vals.len
  obtain ⟨ab, cb, rfl⟩ := hv.bel.len
  obtain ⟨ap, cp, rfl⟩ := hv.pts.len
  obtain ⟨ax, cx, rfl⟩ := hv.sp.len
  obtain ⟨ay, cy, rfl⟩ := hv.sv.len
  have A0 := hideIt (((M.start w).alloc #[.int .i64 s.kd, .int .i64 s.key, .int .i64 s.val, .int .i64 (s.step + 1), .int .i64 s.pg, .slice ak s.keys.length ck, .slice av s.vals.length cv, .slice ab s.bel.length cb, .slice ap s.pts.length cp, .string s.sw, .int .i64 s.ver, .slice ax s.sp.length cx, .slice ay s.sv.length cy, .int .i64 s.laid, .int .i64 s.lv, .int .i64 s.low, .int .i64 s.ch, .int .i64 s.pt] 92).alloc ans0 46)
  have C := hideIt (fun W (hb : Below w.heap.size w W) => frameText_any { s with step := s.step + 1 } (.slice ak s.keys.length ck) (.slice av s.vals.length cv) (.slice ab s.bel.length cb) (.slice ap s.pts.length cp) (.slice ax s.sp.length cx) (.slice ay s.sv.length cy) W (htab.below hb) ⟨hv.keys.below hb, hv.vals.below hb, hv.bel.below hb, hv.pts.below hb, hv.sp.below hb, hv.sv.below hb⟩ hi)
  clear hv hi htab
  go_enter Tryz.func94, Tryz.ntmps94
  go_wp2_with (refine wpList_load_row rfl 92 _ rfl _ rfl 92 _ (0, 0) _ (A0.out.block (i := 1) rfl) Tryz.underlying92 rfl infoState ?_)
  refine (C.out _ A0.out.bl).mono ?_
  rintro e w1 ⟨⟨c, rfl, hc⟩, hb⟩
  have HC := hideIt hc
  have A1 := hideIt (A0.out.below hb)
  clear hc hb C A0
  have q0 := A1.out.cell (i := 0) rfl 0 (.int .i64 0) rfl
  have q1 := A1.out.cell (i := 0) rfl 1 (.bool false) rfl
  have q2 := A1.out.cell (i := 0) rfl 2 (.int .i64 0) rfl
  have q3 := A1.out.cell (i := 0) rfl 3 (.int .i64 0) rfl
  have q4 := A1.out.cell (i := 0) rfl 4 (.slice none 0 0) rfl
  have q5 := A1.out.cell (i := 0) rfl 5 (.slice none 0 0) rfl
  have q6 := A1.out.cell (i := 0) rfl 6 (.slice none 0 0) rfl
  have f0 := A1.out.free (i := 0) rfl 0
  have f1 := A1.out.free (i := 0) rfl 1
  have f2 := A1.out.free (i := 0) rfl 2
  have f3 := A1.out.free (i := 0) rfl 3
  have f4 := A1.out.free (i := 0) rfl 4
  have f5 := A1.out.free (i := 0) rfl 5
  have f6 := A1.out.free (i := 0) rfl 6
  rw [alloc_size] at q0 q1 q2 q3 q4 q5 q6 f0 f1 f2 f3 f4 f5 f6
  go_wp2
  refine bodyPost_ret (v := .tuple #[.string c, .agg ans0, .bool false, .int .i64 0]) (by simp [results, Tryz.results94, go_sem, ans0, *]) rfl ⟨⟨c, rfl, HC.out⟩, ?_⟩
  repeat (refine Below.setCell ?_ (by simp) _)
  exact A1.out.bl
set_option maxRecDepth 100000 in
set_option maxHeartbeats 1600000 in
theorem readOn_any (s : St) (nx : Int) (kv vv bv pv xv yv : Value) (w : World) (htab : Tab w) (hv : StV w s kv vv bv pv xv yv) (hi : StI { s with pg := nx, step := s.step + 1 }) (hs : s.step ≤ 1000000000) (hs0 : 0 ≤ s.step) (hn : 0 ≤ nx) :
    Calls Tryz.prog 89 #[.agg #[.int .i64 s.kd, .int .i64 s.key, .int .i64 s.val, .int .i64 s.step, .int .i64 s.pg, kv, vv, bv, pv, .string s.sw, .int .i64 s.ver, xv, yv, .int .i64 s.laid, .int .i64 s.lv, .int .i64 s.low, .int .i64 s.ch, .int .i64 s.pt], .int .i64 nx] w fun e w' => OnR { s with pg := nx, step := s.step + 1 } e ∧ Below w.heap.size w w' := by
  obtain ⟨ak, ck, rfl⟩ := hv.keys.len
  obtain ⟨av, cv, rfl⟩ := hv.vals.len
  obtain ⟨ab, cb, rfl⟩ := hv.bel.len
  obtain ⟨ap, cp, rfl⟩ := hv.pts.len
  obtain ⟨ax, cx, rfl⟩ := hv.sp.len
  obtain ⟨ay, cy, rfl⟩ := hv.sv.len
  have A0 := hideIt (((M.start w).alloc #[.int .i64 s.kd, .int .i64 s.key, .int .i64 s.val, .int .i64 s.step, .int .i64 nx, .slice ak s.keys.length ck, .slice av s.vals.length cv, .slice ab s.bel.length cb, .slice ap s.pts.length cp, .string s.sw, .int .i64 s.ver, .slice ax s.sp.length cx, .slice ay s.sv.length cy, .int .i64 s.laid, .int .i64 s.lv, .int .i64 s.low, .int .i64 s.ch, .int .i64 s.pt] 92).alloc ans0 46)
  have C := hideIt (fun W (hb : Below w.heap.size w W) => goOn_any { s with pg := nx } (.slice ak s.keys.length ck) (.slice av s.vals.length cv) (.slice ab s.bel.length cb) (.slice ap s.pts.length cp) (.slice ax s.sp.length cx) (.slice ay s.sv.length cy) W (htab.below hb) ⟨hv.keys.below hb, hv.vals.below hb, hv.bel.below hb, hv.pts.below hb, hv.sp.below hb, hv.sv.below hb⟩ hi hs hs0)
  clear hv hi htab
  go_enter Tryz.func89, Tryz.ntmps89
  go_wp2_with (refine wpList_load_row rfl 92 _ rfl _ rfl 92 _ (0, 0) _ (A0.out.block (i := 1) rfl) Tryz.underlying92 rfl infoState ?_)
  refine (C.out _ A0.out.bl).mono ?_
  rintro e w1 ⟨⟨c, rfl, hc⟩, hb⟩
  have HC := hideIt hc
  have A1 := hideIt (A0.out.below hb)
  clear hc hb C A0
  have q0 := A1.out.cell (i := 0) rfl 0 (.int .i64 0) rfl
  have q1 := A1.out.cell (i := 0) rfl 1 (.bool false) rfl
  have q2 := A1.out.cell (i := 0) rfl 2 (.int .i64 0) rfl
  have q3 := A1.out.cell (i := 0) rfl 3 (.int .i64 0) rfl
  have q4 := A1.out.cell (i := 0) rfl 4 (.slice none 0 0) rfl
  have q5 := A1.out.cell (i := 0) rfl 5 (.slice none 0 0) rfl
  have q6 := A1.out.cell (i := 0) rfl 6 (.slice none 0 0) rfl
  have f0 := A1.out.free (i := 0) rfl 0
  have f1 := A1.out.free (i := 0) rfl 1
  have f2 := A1.out.free (i := 0) rfl 2
  have f3 := A1.out.free (i := 0) rfl 3
  have f4 := A1.out.free (i := 0) rfl 4
  have f5 := A1.out.free (i := 0) rfl 5
  have f6 := A1.out.free (i := 0) rfl 6
  rw [alloc_size] at q0 q1 q2 q3 q4 q5 q6 f0 f1 f2 f3 f4 f5 f6
  rw [show ans0 = #[.int .i64 0, .bool false, .int .i64 0, .int .i64 0, .slice none 0 0, .slice none 0 0, .slice none 0 0] from rfl]
  go_wp2
  refine bodyPost_ret (v := .tuple #[.string c, .agg #[.int .i64 0, .bool false, .int .i64 0, .int .i64 0, .slice none 0 0, .slice none 0 0, .slice none 0 0], .bool false, .int .i64 0]) (by simp [results, Tryz.results89, go_sem, *]) rfl ⟨⟨c, rfl, HC.out⟩, ?_⟩
  repeat (refine Below.setCell ?_ (by simp) _)
  exact A1.out.bl
def fndB (ks : List Int) (key : Int) : Nat → Bool
  | 0 => false
  | k + 1 => if ks[k]?.getD 0 = key then true else fndB ks key k
def fndV (ks vs : List Int) (key : Int) : Nat → Int
  | 0 => 0
  | k + 1 => if ks[k]?.getD 0 = key then vs[k]?.getD 0 else fndV ks vs key k
def ansG (f : Bool) (v p : Int) : Array Value := #[.int .i64 0, .bool f, .int .i64 v, .int .i64 p, .slice none 0 0, .slice none 0 0, .slice none 0 0]
set_option maxRecDepth 100000 in
set_option maxHeartbeats 3200000 in
theorem lookUp_any (s : St) (n : Nd) (kv vv bv pv xv yv ka va : Value) (w : World) (hv : StV w s kv vv bv pv xv yv) (hk : Rd w ka n.ks) (hva : Rd w va n.vs) (hl : n.ks.length = n.vs.length) (h6 : n.ks.length ≤ 6) :
    Calls Tryz.prog 92 #[.agg #[.int .i64 s.kd, .int .i64 s.key, .int .i64 s.val, .int .i64 s.step, .int .i64 s.pg, kv, vv, bv, pv, .string s.sw, .int .i64 s.ver, xv, yv, .int .i64 s.laid, .int .i64 s.lv, .int .i64 s.low, .int .i64 s.ch, .int .i64 s.pt], .agg #[.int .i64 n.lv, .int .i64 n.lk, .int .i64 n.hi, ka, va]] w fun e w' => e = .returned (.agg (ansG (fndB n.ks s.key n.ks.length) (fndV n.ks n.vs s.key n.ks.length) s.step)) ∧ Below w.heap.size w w' := by
  obtain ⟨ak, ck, rfl⟩ := hv.keys.len
  obtain ⟨av, cv, rfl⟩ := hv.vals.len
  obtain ⟨ab, cb, rfl⟩ := hv.bel.len
  obtain ⟨ap, cp, rfl⟩ := hv.pts.len
  obtain ⟨ax, cx, rfl⟩ := hv.sp.len
  obtain ⟨ay, cy, rfl⟩ := hv.sv.len
  have HK := hideIt hk
  have HV := hideIt hva
  obtain ⟨nk, nc, rfl⟩ := hk.len
  obtain ⟨nva, nvc, rfl⟩ := hva.len
  obtain ⟨m, hm⟩ : ∃ m, n.ks.length = m := ⟨_, rfl⟩
  rw [← hl] at HV ⊢
  rw [hm] at HK HV h6 ⊢
  clear hv hk hva hl hm
  have A0 := hideIt (((((M.start w).alloc #[.int .i64 s.kd, .int .i64 s.key, .int .i64 s.val, .int .i64 s.step, .int .i64 s.pg, .slice ak s.keys.length ck, .slice av s.vals.length cv, .slice ab s.bel.length cb, .slice ap s.pts.length cp, .string s.sw, .int .i64 s.ver, .slice ax s.sp.length cx, .slice ay s.sv.length cy, .int .i64 s.laid, .int .i64 s.lv, .int .i64 s.low, .int .i64 s.ch, .int .i64 s.pt] 92).alloc #[.int .i64 n.lv, .int .i64 n.lk, .int .i64 n.hi, .slice nk m nc, .slice nva m nvc] 67).alloc (ansG false 0 0) 46).alloc (ansG false 0 s.step) 46)
  rw [alloc_size, alloc_size, alloc_size] at A0
  go_enter Tryz.func92, Tryz.ntmps92
  go_wp2
  go_loopw [6] (fun i wr => ∃ k : Nat, k ≤ m ∧ i = .int .i64 k ∧ Hid (M w w.heap.size wr [.blk (w.heap.size + 1 + 1 + 1) (ansG (fndB n.ks s.key k) (fndV n.ks n.vs s.key k) s.step) 46, .blk (w.heap.size + 1 + 1) (ansG false 0 0) 46, .blk (w.heap.size + 1) #[.int .i64 n.lv, .int .i64 n.lk, .int .i64 n.hi, .slice nk m nc, .slice nva m nvc] 67, .blk w.heap.size #[.int .i64 s.kd, .int .i64 s.key, .int .i64 s.val, .int .i64 s.step, .int .i64 s.pg, .slice ak s.keys.length ck, .slice av s.vals.length cv, .slice ab s.bel.length cb, .slice ap s.pts.length cp, .string s.sw, .int .i64 s.ver, .slice ax s.sp.length cx, .slice ay s.sv.length cy, .int .i64 s.laid, .int .i64 s.lv, .int .i64 s.low, .int .i64 s.ch, .int .i64 s.pt] 92])) (fun i _ => m - (intOf i).toNat)
  case atStart => exact ⟨0, Nat.zero_le _, rfl, A0.out⟩
  case round =>
    clear A0
    obtain ⟨k, hk, rfl, hM⟩ := hrel
    have c1 := hM.out.cell (i := 3) rfl 1 (.int .i64 s.key) rfl
    have d3 := hM.out.cell (i := 2) rfl 3 (.slice nk m nc) rfl
    have d4 := hM.out.cell (i := 2) rfl 4 (.slice nva m nvc) rfl
    have a0 := hM.out.cell (i := 0) rfl 0 (.int .i64 0) rfl
    have a1 := hM.out.cell (i := 0) rfl 1 (.bool (fndB n.ks s.key k)) rfl
    have a2 := hM.out.cell (i := 0) rfl 2 (.int .i64 (fndV n.ks n.vs s.key k)) rfl
    have a3 := hM.out.cell (i := 0) rfl 3 (.int .i64 s.step) rfl
    have a4 := hM.out.cell (i := 0) rfl 4 (.slice none 0 0) rfl
    have a5 := hM.out.cell (i := 0) rfl 5 (.slice none 0 0) rfl
    have a6 := hM.out.cell (i := 0) rfl 6 (.slice none 0 0) rfl
    have f1 := hM.out.free (i := 0) rfl 1
    have f2 := hM.out.free (i := 0) rfl 2
    by_cases hlt : k < m
    · obtain ⟨b1, o1, rfl, -, x1⟩ := HK.out.elem k hlt
      obtain ⟨b2, o2, rfl, -, x2⟩ := HV.out.elem k hlt
      have y1 := x1 _ hM.out.bl
      have y2 := x2 _ hM.out.bl
      have HF : Hid (fndB n.ks s.key (k + 1) = (if n.ks[k]?.getD 0 = s.key then true else fndB n.ks s.key k) ∧ fndV n.ks n.vs s.key (k + 1) = if n.ks[k]?.getD 0 = s.key then n.vs[k]?.getD 0 else fndV n.ks n.vs s.key k) := ⟨rfl, rfl⟩
      obtain ⟨a, ha⟩ : ∃ y, n.ks[k]?.getD 0 = y := ⟨_, rfl⟩
      obtain ⟨b, hb⟩ : ∃ y, n.vs[k]?.getD 0 = y := ⟨_, rfl⟩
      rw [ha] at y1 HF
      rw [hb] at y2 HF
      have hkk : (0 : Int) ≤ (k : Int) := by omega
      have hkl : (k : Int) < (m : Int) := by omega
      have hbn : b2 ≠ w.heap.size + 1 + 1 + 1 ∨ True := Or.inr trivial
      clear x1 x2 ha hb hbn
      by_cases hak : a = s.key
      · have hae : (a == s.key) = true := by simp [hak]
        rw [if_pos hak, if_pos hak] at HF
        have S1 := hM.out.store (i := 0) (j := 1) rfl (.bool true) rfl
        have S2 := S1.store (i := 0) (j := 2) rfl (.int .i64 b) rfl
        have HS := hideIt (fun d => (M.drewN S2 d))
        have hlb : b2 < w.heap.size := HV.out.blk_lt k hlt
        have hne : b2 ≠ w.heap.size + 1 + 1 + 1 := by omega
        clear S1 S2 hak
        go_wp2
        go_quiet (fail)
        go_wp2
        go_roundw
        case rel => exact ⟨k + 1, by omega, by go_num, by rw [HF.out.1, HF.out.2]; exact HS.out _⟩
        case measure => simp [intOf]; omega
      · have hae : (a == s.key) = false := by simp [hak]
        rw [if_neg hak, if_neg hak] at HF
        clear hak
        go_wp2
        go_quiet (fail)
        go_wp2
        go_roundw
        case rel => exact ⟨k + 1, by omega, by go_num, by rw [HF.out.1, HF.out.2]; exact hM.out.drewN _⟩
        case measure => simp [intOf]; omega
    · obtain rfl : k = m := by omega
      have r0 := hM.out.cell (i := 1) rfl 0 (.int .i64 0) rfl
      have r1 := hM.out.cell (i := 1) rfl 1 (.bool false) rfl
      have r2 := hM.out.cell (i := 1) rfl 2 (.int .i64 0) rfl
      have r3 := hM.out.cell (i := 1) rfl 3 (.int .i64 0) rfl
      have r4 := hM.out.cell (i := 1) rfl 4 (.slice none 0 0) rfl
      have r5 := hM.out.cell (i := 1) rfl 5 (.slice none 0 0) rfl
      have r6 := hM.out.cell (i := 1) rfl 6 (.slice none 0 0) rfl
      have g0 := hM.out.free (i := 1) rfl 0
      have g1 := hM.out.free (i := 1) rfl 1
      have g2 := hM.out.free (i := 1) rfl 2
      have g3 := hM.out.free (i := 1) rfl 3
      have g4 := hM.out.free (i := 1) rfl 4
      have g5 := hM.out.free (i := 1) rfl 5
      have g6 := hM.out.free (i := 1) rfl 6
      go_wp2
      refine bodyPost_ret (v := .agg (ansG (fndB n.ks s.key k) (fndV n.ks n.vs s.key k) s.step)) (by simp [results, Tryz.results92, go_sem, ansG, *]) rfl ⟨rfl, ?_⟩
      repeat (refine Below.setCell ?_ (by show w.heap.size ≤ w.heap.size + 1 + 1; omega) _)
      exact hM.out.bl
def tkK (ks : List Int) (l h : Int) (K : List Int) : Nat → List Int
  | 0 => K
  | k + 1 => if l ≤ ks[k]?.getD 0 ∧ ks[k]?.getD 0 < h then tkK ks l h K k ++ [ks[k]?.getD 0] else tkK ks l h K k
def tkV (ks vs : List Int) (l h : Int) (V : List Int) : Nat → List Int
  | 0 => V
  | k + 1 => if l ≤ ks[k]?.getD 0 ∧ ks[k]?.getD 0 < h then tkV ks vs l h V k ++ [vs[k]?.getD 0] else tkV ks vs l h V k
def chK (n : Nd) (k key : Int) : List Int := tkK n.ks (key + 1) n.hi (tkK n.ks 0 key [] n.ks.length ++ (if k = 2 then [key] else [])) n.ks.length
def chV (n : Nd) (k key v : Int) : List Int := tkV n.ks n.vs (key + 1) n.hi (tkV n.ks n.vs 0 key [] n.ks.length ++ (if k = 2 then [v] else [])) n.ks.length
def look : List (Int × Int) → Int → Option Int
  | [], _ => none
  | x :: r, q => if x.1 = q then some x.2 else look r q
theorem look_append (a b : List (Int × Int)) (q : Int) : look (a ++ b) q = (look a q).or (look b q) := by
  induction a with
  | nil => simp [look]
  | cons x r ih =>
    simp only [List.cons_append, look]
    split
    · simp
    · exact ih
theorem look_filter (p : Int → Bool) (l : List (Int × Int)) (q : Int) : look (l.filter fun x => p x.1) q = if p q then look l q else none := by
  induction l with
  | nil => simp [look]
  | cons x r ih =>
    by_cases hx : p x.1
    · rw [List.filter_cons_of_pos (p := fun x : Int × Int => p x.1) hx]
      simp only [look]
      by_cases h : x.1 = q
      · rw [if_pos h, if_pos h, ← h, if_pos hx]
      · rw [if_neg h, if_neg h]; exact ih
    · rw [List.filter_cons_of_neg (p := fun x : Int × Int => p x.1) hx, ih]
      simp only [look]
      by_cases h : x.1 = q
      · rw [if_pos h, ← h, if_neg hx, if_neg hx]
      · rw [if_neg h]
theorem look_none {l : List (Int × Int)} {q : Int} (h : ∀ x ∈ l, x.1 ≠ q) : look l q = none := by
  induction l with
  | nil => rfl
  | cons x r ih =>
    simp only [look]
    rw [if_neg (h x (by simp))]
    exact ih fun y hy => h y (by simp [hy])
theorem look_mem {l : List (Int × Int)} (hn : (l.map Prod.fst).Nodup) {q v : Int} (h : (q, v) ∈ l) : look l q = some v := by
  induction l with
  | nil => cases h
  | cons x r ih =>
    simp only [List.map_cons, List.nodup_cons] at hn
    simp only [look]
    rcases List.mem_cons.1 h with rfl | h
    · simp
    · rw [if_neg (fun e => hn.1 (by rw [e]; exact List.mem_map.2 ⟨_, h, rfl⟩))]
      exact ih hn.2 h
theorem mem_look {l : List (Int × Int)} {q v : Int} (h : look l q = some v) : (q, v) ∈ l := by
  induction l with
  | nil => cases h
  | cons x r ih =>
    simp only [look] at h
    split at h
    next e => cases h; subst e; simp
    next e => exact List.mem_cons_of_mem _ (ih h)
theorem fnd_look (ks vs : List Int) (q : Int) (hp : ks.Pairwise (· < ·)) (hl : ks.length = vs.length) (k : Nat) (hk : k ≤ ks.length) : fndB ks q k = (look ((ks.zip vs).take k) q).isSome ∧ fndV ks vs q k = (look ((ks.zip vs).take k) q).getD 0 := by
  induction k with
  | zero => exact ⟨rfl, rfl⟩
  | succ k ih =>
    obtain ⟨h1, h2⟩ := ih (by omega)
    have hkz : k < (ks.zip vs).length := by simp; omega
    have e1 : ks[k]?.getD 0 = ks[k]'(by omega) := by rw [List.getElem?_eq_getElem (by omega)]; rfl
    have e2 : vs[k]?.getD 0 = vs[k]'(by omega) := by rw [List.getElem?_eq_getElem (by omega)]; rfl
    rw [List.take_add_one, List.getElem?_eq_getElem hkz, Option.toList_some, look_append]
    simp only [fndB, fndV, e1, e2, List.getElem_zip, look]
    by_cases h : ks[k]'(by omega) = q
    · rw [if_pos h, if_pos h, if_pos h]
      have hno : look ((ks.zip vs).take k) q = none := by
        refine look_none fun x hx e => ?_
        obtain ⟨i, hi⟩ := List.mem_iff_getElem?.1 hx
        rw [List.getElem?_take] at hi
        split at hi
        next hik =>
          rw [List.getElem?_zip_eq_some] at hi
          have h3 := List.pairwise_iff_getElem.1 hp i k (by omega) (by omega) hik
          have h4 : ks[i]'(by omega) = x.1 := by have := hi.1; rw [List.getElem?_eq_getElem (by omega)] at this; exact Option.some.inj this
          omega
        next => cases hi
      rw [hno]; exact ⟨rfl, rfl⟩
    · rw [if_neg h, if_neg h, if_neg h, Option.or_none]
      exact ⟨h1, h2⟩
theorem tk_zip (ks vs : List Int) (l h : Int) (K V : List Int) (hKV : K.length = V.length) (hl : ks.length = vs.length) (k : Nat) (hk : k ≤ ks.length) : (tkK ks l h K k).length = (tkV ks vs l h V k).length ∧ (tkK ks l h K k).zip (tkV ks vs l h V k) = K.zip V ++ ((ks.zip vs).take k).filter (fun x => (fun q => decide (l ≤ q) && decide (q < h)) x.1) := by
  induction k with
  | zero => simp [tkK, tkV, hKV]
  | succ k ih =>
    obtain ⟨h1, h2⟩ := ih (by omega)
    have hkz : k < (ks.zip vs).length := by simp; omega
    have e1 : ks[k]?.getD 0 = ks[k]'(by omega) := by rw [List.getElem?_eq_getElem (by omega)]; rfl
    have e2 : vs[k]?.getD 0 = vs[k]'(by omega) := by rw [List.getElem?_eq_getElem (by omega)]; rfl
    rw [List.take_add_one, List.getElem?_eq_getElem hkz, Option.toList_some, List.filter_append]
    simp only [tkK, tkV, e1, e2]
    by_cases hd : l ≤ ks[k]'(by omega) ∧ ks[k]'(by omega) < h
    · rw [if_pos hd, if_pos hd]
      refine ⟨by simp [h1], ?_⟩
      rw [List.zip_append h1, h2, List.append_assoc]
      congr 1
      congr 1
      simp [hd.1, hd.2]
    · rw [if_neg hd, if_neg hd]
      refine ⟨h1, ?_⟩
      rw [h2]
      congr 1
      have : (decide (l ≤ ks[k]'(by omega)) && decide (ks[k]'(by omega) < h)) = false := by
        rw [Bool.eq_false_iff]; intro e; simp only [Bool.and_eq_true, decide_eq_true_eq] at e; exact hd e
      simp [this]
def upd (k key v : Int) (m : Int → Option Int) (q : Int) : Option Int := if q = key then (if k = 2 then some v else if k = 3 then none else m q) else m q
theorem ch_zip (n : Nd) (k key v : Int) (hl : n.ks.length = n.vs.length) : (chK n k key).length = (chV n k key v).length ∧ (chK n k key).zip (chV n k key v) = (n.ks.zip n.vs).filter (fun x => (fun q => decide (0 ≤ q) && decide (q < key)) x.1) ++ (if k = 2 then [(key, v)] else []) ++ (n.ks.zip n.vs).filter (fun x => (fun q => decide (key + 1 ≤ q) && decide (q < n.hi)) x.1) := by
  have hz : (n.ks.zip n.vs).take n.ks.length = n.ks.zip n.vs := List.take_of_length_le (by simp; omega)
  obtain ⟨a1, a2⟩ := tk_zip n.ks n.vs 0 key [] [] rfl hl n.ks.length (Nat.le_refl _)
  rw [hz] at a2
  have hlen : (tkK n.ks 0 key [] n.ks.length ++ (if k = 2 then [key] else [])).length = (tkV n.ks n.vs 0 key [] n.ks.length ++ (if k = 2 then [v] else [])).length := by
    rw [List.length_append, List.length_append, a1]; split <;> rfl
  obtain ⟨b1, b2⟩ := tk_zip n.ks n.vs (key + 1) n.hi _ _ hlen hl n.ks.length (Nat.le_refl _)
  rw [hz] at b2
  refine ⟨b1, ?_⟩
  unfold chK chV
  rw [b2, List.zip_append a1, a2]
  congr 2
  split <;> rfl
theorem ch_look (n : Nd) (k key v : Int) (hl : n.ks.length = n.vs.length) (hb : ∀ x ∈ n.ks, 0 ≤ x ∧ x < n.hi) (hk : k = 2 ∨ k = 3) (q : Int) : look ((chK n k key).zip (chV n k key v)) q = upd k key v (look (n.ks.zip n.vs)) q := by
  have hno : ∀ q, ¬ (0 ≤ q ∧ q < n.hi) → look (n.ks.zip n.vs) q = none := fun q hq => look_none fun x hx e => hq (by have := hb x.1 (List.of_mem_zip hx).1; rw [e] at this; exact this)
  rw [(ch_zip n k key v hl).2, look_append, look_append, look_filter (fun q => decide (0 ≤ q) && decide (q < key)), look_filter (fun q => decide (key + 1 ≤ q) && decide (q < n.hi))]
  unfold upd
  by_cases h1 : q = key
  · subst h1
    have e1 : (decide (0 ≤ q) && decide (q < q)) = false := by simp
    have e2 : (decide (q + 1 ≤ q) && decide (q < n.hi)) = false := by
      have : ¬ (q + 1 ≤ q) := by omega
      simp [this]
    simp only [e1, e2]
    rcases hk with rfl | rfl <;> simp [look]
  · rw [if_neg h1]
    have e3 : look (if k = 2 then [(key, v)] else []) q = none := by
      split
      · simp only [look]; rw [if_neg (fun e => h1 e.symm)]
      · rfl
    rw [e3, Option.or_none]
    by_cases h2 : q < key
    · have e2 : (decide (key + 1 ≤ q) && decide (q < n.hi)) = false := by
        have : ¬ (key + 1 ≤ q) := by omega
        simp [this]
      simp only [e2]
      by_cases h0 : 0 ≤ q
      · have e1 : (decide (0 ≤ q) && decide (q < key)) = true := by simp [h0, h2]
        simp [e1]
      · have e1 : (decide (0 ≤ q) && decide (q < key)) = false := by simp [h0]
        simp only [e1]
        rw [hno q (fun h => h0 h.1)]; rfl
    · have e1 : (decide (0 ≤ q) && decide (q < key)) = false := by simp [h2]
      simp only [e1]
      by_cases h3 : q < n.hi
      · have e2 : (decide (key + 1 ≤ q) && decide (q < n.hi)) = true := by
          have : key + 1 ≤ q := by omega
          simp [this, h3]
        simp [e2]
      · have e2 : (decide (key + 1 ≤ q) && decide (q < n.hi)) = false := by simp [h3]
        simp only [e2]
        rw [hno q (fun h => h3 h.2)]; rfl
theorem keysOk_pair (hi l : Int) (ks : List Int) (h : keysOk hi l ks = true) : ks.Pairwise (· < ·) := by
  induction ks generalizing l with
  | nil => exact List.Pairwise.nil
  | cons x r ih =>
    simp only [keysOk, Bool.and_eq_true, decide_eq_true_eq] at h
    refine List.pairwise_cons.2 ⟨fun y hy => ?_, ih (x + 1) h.2.2⟩
    have := keysOk_all _ _ _ h.2.2 y hy
    omega
theorem keysOk_mk (hi l : Int) (ks : List Int) (hp : ks.Pairwise (· < ·)) (hb : ∀ k ∈ ks, l ≤ k ∧ k < hi) : keysOk hi l ks = true := by
  induction ks generalizing l with
  | nil => rfl
  | cons x r ih =>
    rw [List.pairwise_cons] at hp
    have h1 := hb x (by simp)
    simp only [keysOk, Bool.and_eq_true, decide_eq_true_eq]
    exact ⟨h1.1, h1.2, ih (x + 1) hp.2 fun k hk => ⟨by have := hp.1 k hk; omega, (hb k (by simp [hk])).2⟩⟩
theorem valsOk_iff (lv : Int) (vs : List Int) : valsOk lv vs = true ↔ ∀ v ∈ vs, valOk lv v = true := by
  induction vs with
  | nil => simp [valsOk]
  | cons x r ih => simp [valsOk, ih]
theorem cnt3 (ks : List Int) (key hi : Int) : (ks.filter (fun q => decide (0 ≤ q) && decide (q < key))).length + (ks.filter (fun q => decide (key + 1 ≤ q) && decide (q < hi))).length + (ks.filter (fun q => decide (q = key))).length ≤ ks.length := by
  induction ks with
  | nil => simp
  | cons x r ih =>
    simp only [List.filter_cons, List.length_cons]
    by_cases h1 : x = key
    · have e1 : (decide (0 ≤ x) && decide (x < key)) = false := by rw [Bool.and_eq_false_iff]; right; rw [decide_eq_false_iff_not]; omega
      have e2 : (decide (key + 1 ≤ x) && decide (x < hi)) = false := by rw [Bool.and_eq_false_iff]; left; rw [decide_eq_false_iff_not]; omega
      have e3 : decide (x = key) = true := by simp [h1]
      simp only [e1, e2, e3, if_true, Bool.false_eq_true, if_false, List.length_cons]; omega
    · have e3 : decide (x = key) = false := by simp [h1]
      simp only [e3, Bool.false_eq_true, if_false]
      by_cases h2 : x < key
      · have e2 : (decide (key + 1 ≤ x) && decide (x < hi)) = false := by rw [Bool.and_eq_false_iff]; left; rw [decide_eq_false_iff_not]; omega
        simp only [e2, Bool.false_eq_true, if_false]
        split <;> (try simp only [List.length_cons]) <;> omega
      · have e1 : (decide (0 ≤ x) && decide (x < key)) = false := by simp [h2]
        simp only [e1, Bool.false_eq_true, if_false]
        split <;> (try simp only [List.length_cons]) <;> omega
theorem chK_eq (n : Nd) (k key v : Int) (hl : n.ks.length = n.vs.length) : chK n k key = n.ks.filter (fun q => decide (0 ≤ q) && decide (q < key)) ++ (if k = 2 then [key] else []) ++ n.ks.filter (fun q => decide (key + 1 ≤ q) && decide (q < n.hi)) := by
  obtain ⟨h1, h2⟩ := ch_zip n k key v hl
  have h3 := congrArg (List.map Prod.fst) h2
  rw [List.map_fst_zip (by omega)] at h3
  rw [h3, List.map_append, List.map_append]
  have e : ∀ p : Int → Bool, ((n.ks.zip n.vs).filter (fun x => p x.1)).map Prod.fst = n.ks.filter p := fun p => by
    have : n.ks = (n.ks.zip n.vs).map Prod.fst := (List.map_fst_zip (by omega)).symm
    conv => rhs; rw [this]
    rw [List.filter_map]; rfl
  rw [e (fun q => decide (0 ≤ q) && decide (q < key)), e (fun q => decide (key + 1 ≤ q) && decide (q < n.hi))]
  congr 2
  split <;> rfl
end Go.Proofs.YtajobgmnmbnhiaaGreatDoor.Sap
