/- WHAT IS PROVED HERE: tree.Next asks for Read of its page. Conditions: named at each theorem. -/
import Derived.Test.YtajobgmnmbnhiaaDoorXW13R2
import Derived.Test.YtajobgmnmbnhiaaDoorXS0F0
import Derived.Test.YtajobgmnmbnhiaaDoorXT6TT7
import Derived.Deep.RegionHeld3
import Derived.Deep.DeepCutAuto
namespace Go.Proofs.YtajobgmnmbnhiaaDoor.Sap
open Go.RowKit

set_option maxRecDepth 100000 in
set_option maxHeartbeats 1600000 in
theorem next_read (s : St) (t : ByteArray) (w : World) (ht : t.data.toList = frT s) (hok : StOk s) (hsw : s.sw = ⟨#[]⟩) :
    Calls Tryd.prog 26 #[.string t] w fun e w' => e = .returned (.tuple #[.agg #[.int .i64 1, .int .i64 s.pg, .int .i64 0, .string ⟨#[]⟩], .int .i64 0]) ∧ Below w.heap.size w w' := by
  have N0 := hideIt (heap_alloc_new w (.cells #[.int .i64 0, .int .i64 0, .int .i64 0, .string ⟨#[]⟩] 45))
  have B0 := hideIt ((Below.refl w.heap.size w).alloc (Nat.le_refl _) (.cells #[.int .i64 0, .int .i64 0, .int .i64 0, .string ⟨#[]⟩] 45))
  have C := hideIt (readFrame_yes s t (w.alloc (.cells #[.int .i64 0, .int .i64 0, .int .i64 0, .string ⟨#[]⟩] 45)) ht hok)
  have hsb : s.sw.toList.isEmpty = true := by rw [hsw, ByteArray.toList_eq]; rfl
  clear ht hok
  go_enter Tryd.func26, Tryd.ntmps26
  go_wp2_with fail
  refine C.out.mono ?_
  rintro e w1 ⟨⟨kv, vv, bv, pv, xv, yv, hO, rfl⟩, hb⟩
  obtain ⟨ak, ck, rfl⟩ := own_form hO.keys
  obtain ⟨av, cv, rfl⟩ := own_form hO.vals
  obtain ⟨ab, cb, rfl⟩ := own_form hO.bel
  obtain ⟨ap, cp, rfl⟩ := own_form hO.pts
  obtain ⟨ax, cx, rfl⟩ := own_form hO.sp
  obtain ⟨ay, cy, rfl⟩ := own_form hO.sv
  have N1 := hideIt (block_below N0.out hb)
  have B1 := hideIt (step B0.out hb)
  clear hb hO C
  have q0 := cellOf N1.out 0 _ rfl
  have q1 := cellOf N1.out 1 _ rfl
  have q2 := cellOf N1.out 2 _ rfl
  have q3 := cellOf N1.out 3 _ rfl
  have f0 := Go.Joins.unfrozen_of_block N1.out 0
  have f1 := Go.Joins.unfrozen_of_block N1.out 1
  have f2 := Go.Joins.unfrozen_of_block N1.out 2
  have f3 := Go.Joins.unfrozen_of_block N1.out 3
  have hsz := lt_of_block N1.out
  go_wp2
  refine bodyPost_ret (v := .tuple #[.agg #[.int .i64 1, .int .i64 s.pg, .int .i64 0, .string ⟨#[]⟩], .int .i64 0]) (by simp [results, Tryd.results26, go_sem, *]) rfl ⟨rfl, ?_⟩
  refine Below.alloc ?_ (by simpa using B1.out.size) _
  repeat (refine Below.setCell ?_ (by simp) _)
  exact B1.out

end Go.Proofs.YtajobgmnmbnhiaaDoor.Sap

/- WHAT IS PROVED HERE: what tree.wanted, tree.onward, tree.goOn and tree.lookUp answer. Conditions: named at each theorem. -/
namespace Go.Proofs.YtajobgmnmbnhiaaDoor.Sap
open Go.RowKit

/-- The key for which an operation looks now. -/
def wantV (s : St) : Int := if 0 < s.lv then s.low else s.bel.getLast?.getD s.key

set_option maxRecDepth 100000 in
set_option maxHeartbeats 1600000 in
theorem wanted_any (s : St) (kv vv bv pv xv yv : Value) (w : World) (hv : StV w s kv vv bv pv xv yv) (hok : StI s) :
    Calls Tryd.prog 76 #[.agg #[.int .i64 s.kd, .int .i64 s.key, .int .i64 s.val, .int .i64 s.step, .int .i64 s.pg, kv, vv, bv, pv, .string s.sw, .int .i64 s.ver, xv, yv, .int .i64 s.laid, .int .i64 s.lv, .int .i64 s.low, .int .i64 s.ch, .int .i64 s.pt]] w fun e w' => e = .returned (.int .i64 (wantV s)) ∧ Below w.heap.size w w' := by
  obtain ⟨ak, ck, rfl⟩ := hv.keys.len
  obtain ⟨av, cv, rfl⟩ := hv.vals.len
  obtain ⟨ab, cb, rfl⟩ := hv.bel.len
  obtain ⟨ap, cp, rfl⟩ := hv.pts.len
  obtain ⟨ax, cx, rfl⟩ := hv.sp.len
  obtain ⟨ay, cy, rfl⟩ := hv.sv.len
  have HR := hideIt hv.bel
  have hb64 := hok.belL
  have B0 : ∀ o, Hid (Below w.heap.size w (w.alloc o)) := fun o => (Below.refl _ _).alloc (Nat.le_refl _) o
  by_cases hlv : 0 < s.lv
  · have HW : Hid (wantV s = s.low) := by unfold Hid wantV; rw [if_pos hlv]
    clear hv hok HR hb64
    go_enter Tryd.func76, Tryd.ntmps76
    go_wp2
    go_ret
    exact ⟨ret_int HW.out.symm, (B0 _).out⟩
  have hlv2 : decide (0 < s.lv) = false := decide_eq_false hlv
  obtain ⟨m, hm⟩ : ∃ m, s.bel.length = m := ⟨_, rfl⟩
  rw [hm] at HR hb64 ⊢
  cases m with
  | zero =>
    have HW : Hid (wantV s = s.key) := by unfold Hid wantV; rw [if_neg hlv, List.eq_nil_of_length_eq_zero hm]; rfl
    clear hv hok hm hlv
    go_enter Tryd.func76, Tryd.ntmps76
    go_wp2
    go_ret
    exact ⟨ret_int HW.out.symm, (B0 _).out⟩
  | succ j =>
    obtain ⟨b1, o1, rfl, -, x1⟩ := HR.out.elem j (by omega)
    have y1 : ∀ p, (w.alloc p).cell? ⟨b1, o1 + j, none⟩ = some (.int .i64 (s.bel[j]?.getD 0)) := fun p => x1 _ ((Below.refl _ _).alloc (Nat.le_refl _) p)
    have HW : Hid (wantV s = s.bel[j]?.getD 0) := by
      unfold Hid wantV
      rw [if_neg hlv, List.getLast?_eq_getElem?, hm, Nat.add_sub_cancel, List.getElem?_eq_getElem (by omega)]; rfl
    obtain ⟨y, hy⟩ : ∃ y, s.bel[j]?.getD 0 = y := ⟨_, rfl⟩
    rw [hy] at y1 HW
    clear hv hok hm x1 hy hlv
    go_enter Tryd.func76, Tryd.ntmps76
    go_wp2
    go_ret
    exact ⟨ret_int HW.out.symm, (B0 _).out⟩

/-- The child for a key among the first k entries; -1: none. -/
def chl (ks vs : List Int) (key : Int) : Nat → Int
  | 0 => -1
  | k + 1 => if ks[k]?.getD 0 ≤ key then vs[k]?.getD 0 else chl ks vs key k
def onwV (n : Nd) (key : Int) : Int := if n.hi ≤ key then n.lk else chl n.ks n.vs key n.ks.length

set_option maxRecDepth 100000 in
set_option maxHeartbeats 1600000 in
theorem onward_any (n : Nd) (kv vv : Value) (key : Int) (w : World) (hk : Rd w kv n.ks) (hv : Rd w vv n.vs) (hl : n.ks.length = n.vs.length) (h6 : n.ks.length ≤ 6) :
    Calls Tryd.prog 104 #[.agg #[.int .i64 n.lv, .int .i64 n.lk, .int .i64 n.hi, kv, vv], .int .i64 key] w fun e w' => e = .returned (.int .i64 (onwV n key)) ∧ Below w.heap.size w w' := by
  have HK := hideIt hk
  have HV := hideIt hv
  obtain ⟨ak, ck, rfl⟩ := hk.len
  obtain ⟨av, cv, rfl⟩ := hv.len
  have B0 : ∀ o, Hid (Below w.heap.size w (w.alloc o)) := fun o => (Below.refl _ _).alloc (Nat.le_refl _) o
  obtain ⟨m, hm⟩ : ∃ m, n.ks.length = m := ⟨_, rfl⟩
  rw [← hl] at HV ⊢
  rw [hm] at HK HV h6 ⊢
  by_cases hh : n.hi ≤ key
  · have HW : Hid (onwV n key = n.lk) := by unfold Hid onwV; rw [if_pos hh]
    clear hk hv hl hm
    go_enter Tryd.func104, Tryd.ntmps104
    go_wp2
    go_ret
    exact ⟨ret_int HW.out.symm, (B0 _).out⟩
  · have HW : Hid (onwV n key = chl n.ks n.vs key m) := by unfold Hid onwV; rw [if_neg hh, hm]
    have hh2 : key < n.hi := by omega
    clear hk hv hl hm hh
    go_enter Tryd.func104, Tryd.ntmps104
    go_wp2
    go_loopw [5, 6] (fun t i wr => ∃ k : Nat, k ≤ m ∧ i = .int .i64 k ∧ t = .int .i64 (chl n.ks n.vs key k) ∧ wr = w.alloc (.cells #[.int .i64 n.lv, .int .i64 n.lk, .int .i64 n.hi, .slice ak m ck, .slice av m cv] 24)) (fun _ i _ => m - (intOf i).toNat)
    case atStart => exact ⟨0, Nat.zero_le _, rfl, rfl, rfl⟩
    case round =>
      obtain ⟨k, hk, rfl, rfl, rfl⟩ := hrel
      by_cases hlt : k < m
      · obtain ⟨b1, o1, rfl, -, x1⟩ := HK.out.elem k hlt
        obtain ⟨b2, o2, rfl, -, x2⟩ := HV.out.elem k hlt
        have y1 : ∀ p, (w.alloc p).cell? ⟨b1, o1 + k, none⟩ = some (.int .i64 (n.ks[k]?.getD 0)) := fun p => x1 _ ((Below.refl _ _).alloc (Nat.le_refl _) p)
        have y2 : ∀ p, (w.alloc p).cell? ⟨b2, o2 + k, none⟩ = some (.int .i64 (n.vs[k]?.getD 0)) := fun p => x2 _ ((Below.refl _ _).alloc (Nat.le_refl _) p)
        have HC : Hid (chl n.ks n.vs key (k + 1) = if n.ks[k]?.getD 0 ≤ key then n.vs[k]?.getD 0 else chl n.ks n.vs key k) := rfl
        obtain ⟨a, ha⟩ : ∃ y, n.ks[k]?.getD 0 = y := ⟨_, rfl⟩
        obtain ⟨b, hb⟩ : ∃ y, n.vs[k]?.getD 0 = y := ⟨_, rfl⟩
        rw [ha] at y1 HC
        rw [hb] at y2 HC
        have hkk : (0 : Int) ≤ (k : Int) := by omega
        have hkl : (k : Int) < (m : Int) := by omega
        clear x1 x2 ha hb
        by_cases hak : a ≤ key
        · rw [if_pos hak] at HC
          go_wp2
          go_roundw
          case rel => exact ⟨k + 1, by omega, by go_num, by rw [HC.out], by trivial⟩
          case measure => simp [intOf]; omega
        · rw [if_neg hak] at HC
          have hak2 : key < a := by omega
          clear hak
          go_wp2
          go_roundw
          case rel => exact ⟨k + 1, by omega, by go_num, by rw [HC.out], by trivial⟩
          case measure => simp [intOf]; omega
      · obtain rfl : k = m := by omega
        go_wp2
        go_ret
        exact ⟨ret_int HW.out.symm, (B0 _).out⟩

/-- What Tell answers when it goes on: the next frame. -/
def OnR (s : St) (e : Ending) : Prop := ∃ c : ByteArray, e = .returned (.tuple #[.string c, .agg ans0, .bool false, .int .i64 0]) ∧ c.data.toList = frT s

set_option maxRecDepth 100000 in
set_option maxHeartbeats 1600000 in
theorem goOn_any (s : St) (kv vv bv pv xv yv : Value) (w : World) (htab : Tab w) (hv : StV w s kv vv bv pv xv yv) (hi : StI { s with step := s.step + 1 }) (hs : s.step ≤ 1000000000) (hs0 : 0 ≤ s.step) :
    Calls Tryd.prog 110 #[.agg #[.int .i64 s.kd, .int .i64 s.key, .int .i64 s.val, .int .i64 s.step, .int .i64 s.pg, kv, vv, bv, pv, .string s.sw, .int .i64 s.ver, xv, yv, .int .i64 s.laid, .int .i64 s.lv, .int .i64 s.low, .int .i64 s.ch, .int .i64 s.pt]] w fun e w' => OnR { s with step := s.step + 1 } e ∧ Below w.heap.size w w' := by
  obtain ⟨ak, ck, rfl⟩ := hv.keys.len
  obtain ⟨av, cv, rfl⟩ := hv.vals.len
  obtain ⟨ab, cb, rfl⟩ := hv.bel.len
  obtain ⟨ap, cp, rfl⟩ := hv.pts.len
  obtain ⟨ax, cx, rfl⟩ := hv.sp.len
  obtain ⟨ay, cy, rfl⟩ := hv.sv.len
  have A0 := hideIt (((M.start w).alloc #[.int .i64 s.kd, .int .i64 s.key, .int .i64 s.val, .int .i64 (s.step + 1), .int .i64 s.pg, .slice ak s.keys.length ck, .slice av s.vals.length cv, .slice ab s.bel.length cb, .slice ap s.pts.length cp, .string s.sw, .int .i64 s.ver, .slice ax s.sp.length cx, .slice ay s.sv.length cy, .int .i64 s.laid, .int .i64 s.lv, .int .i64 s.low, .int .i64 s.ch, .int .i64 s.pt] 98).alloc ans0 76)
  have C := hideIt (fun W (hb : Below w.heap.size w W) => frameText_any { s with step := s.step + 1 } (.slice ak s.keys.length ck) (.slice av s.vals.length cv) (.slice ab s.bel.length cb) (.slice ap s.pts.length cp) (.slice ax s.sp.length cx) (.slice ay s.sv.length cy) W (htab.below hb) ⟨hv.keys.below hb, hv.vals.below hb, hv.bel.below hb, hv.pts.below hb, hv.sp.below hb, hv.sv.below hb⟩ hi)
  clear hv hi htab
  go_enter Tryd.func110, Tryd.ntmps110
  go_wp2_with (refine wpList_load_row rfl 98 _ rfl _ rfl 98 _ (0, 0) _ (A0.out.block (i := 1) rfl) Tryd.underlying98 rfl infoState ?_)
  refine (C.out _ A0.out.bl).mono ?_
  rintro e w1 ⟨⟨c, rfl, hc⟩, hb⟩
  have HC := hideIt hc
  have A1 := hideIt (A0.out.below hb)
  clear hc hb C A0
  have q0 := A1.out.cell (i := 0) rfl 0 (.int .i64 0) rfl
  have q1 := A1.out.cell (i := 0) rfl 1 (.bool false) rfl
  have q2 := A1.out.cell (i := 0) rfl 2 (.int .i64 0) rfl
  have q3 := A1.out.cell (i := 0) rfl 3 (.int .i64 0) rfl
  have q4 := A1.out.cell (i := 0) rfl 4 (.slice none 0 0) rfl
  have q5 := A1.out.cell (i := 0) rfl 5 (.slice none 0 0) rfl
  have q6 := A1.out.cell (i := 0) rfl 6 (.slice none 0 0) rfl
  have f0 := A1.out.free (i := 0) rfl 0
  have f1 := A1.out.free (i := 0) rfl 1
  have f2 := A1.out.free (i := 0) rfl 2
  have f3 := A1.out.free (i := 0) rfl 3
  have f4 := A1.out.free (i := 0) rfl 4
  have f5 := A1.out.free (i := 0) rfl 5
  have f6 := A1.out.free (i := 0) rfl 6
  rw [alloc_size] at q0 q1 q2 q3 q4 q5 q6 f0 f1 f2 f3 f4 f5 f6
  go_wp2
  refine bodyPost_ret (v := .tuple #[.string c, .agg ans0, .bool false, .int .i64 0]) (by simp [results, Tryd.results110, go_sem, ans0, *]) rfl ⟨⟨c, rfl, HC.out⟩, ?_⟩
  repeat (refine Below.setCell ?_ (by simp) _)
  exact A1.out.bl

set_option maxRecDepth 100000 in
set_option maxHeartbeats 1600000 in
theorem readOn_any (s : St) (nx : Int) (kv vv bv pv xv yv : Value) (w : World) (htab : Tab w) (hv : StV w s kv vv bv pv xv yv) (hi : StI { s with pg := nx, step := s.step + 1 }) (hs : s.step ≤ 1000000000) (hs0 : 0 ≤ s.step) (hn : 0 ≤ nx) :
    Calls Tryd.prog 105 #[.agg #[.int .i64 s.kd, .int .i64 s.key, .int .i64 s.val, .int .i64 s.step, .int .i64 s.pg, kv, vv, bv, pv, .string s.sw, .int .i64 s.ver, xv, yv, .int .i64 s.laid, .int .i64 s.lv, .int .i64 s.low, .int .i64 s.ch, .int .i64 s.pt], .int .i64 nx] w fun e w' => OnR { s with pg := nx, step := s.step + 1 } e ∧ Below w.heap.size w w' := by
  obtain ⟨ak, ck, rfl⟩ := hv.keys.len
  obtain ⟨av, cv, rfl⟩ := hv.vals.len
  obtain ⟨ab, cb, rfl⟩ := hv.bel.len
  obtain ⟨ap, cp, rfl⟩ := hv.pts.len
  obtain ⟨ax, cx, rfl⟩ := hv.sp.len
  obtain ⟨ay, cy, rfl⟩ := hv.sv.len
  have A0 := hideIt (((M.start w).alloc #[.int .i64 s.kd, .int .i64 s.key, .int .i64 s.val, .int .i64 s.step, .int .i64 nx, .slice ak s.keys.length ck, .slice av s.vals.length cv, .slice ab s.bel.length cb, .slice ap s.pts.length cp, .string s.sw, .int .i64 s.ver, .slice ax s.sp.length cx, .slice ay s.sv.length cy, .int .i64 s.laid, .int .i64 s.lv, .int .i64 s.low, .int .i64 s.ch, .int .i64 s.pt] 98).alloc ans0 76)
  have C := hideIt (fun W (hb : Below w.heap.size w W) => goOn_any { s with pg := nx } (.slice ak s.keys.length ck) (.slice av s.vals.length cv) (.slice ab s.bel.length cb) (.slice ap s.pts.length cp) (.slice ax s.sp.length cx) (.slice ay s.sv.length cy) W (htab.below hb) ⟨hv.keys.below hb, hv.vals.below hb, hv.bel.below hb, hv.pts.below hb, hv.sp.below hb, hv.sv.below hb⟩ hi hs hs0)
  clear hv hi htab
  go_enter Tryd.func105, Tryd.ntmps105
  go_wp2_with (refine wpList_load_row rfl 98 _ rfl _ rfl 98 _ (0, 0) _ (A0.out.block (i := 1) rfl) Tryd.underlying98 rfl infoState ?_)
  refine (C.out _ A0.out.bl).mono ?_
  rintro e w1 ⟨⟨c, rfl, hc⟩, hb⟩
  have HC := hideIt hc
  have A1 := hideIt (A0.out.below hb)
  clear hc hb C A0
  have q0 := A1.out.cell (i := 0) rfl 0 (.int .i64 0) rfl
  have q1 := A1.out.cell (i := 0) rfl 1 (.bool false) rfl
  have q2 := A1.out.cell (i := 0) rfl 2 (.int .i64 0) rfl
  have q3 := A1.out.cell (i := 0) rfl 3 (.int .i64 0) rfl
  have q4 := A1.out.cell (i := 0) rfl 4 (.slice none 0 0) rfl
  have q5 := A1.out.cell (i := 0) rfl 5 (.slice none 0 0) rfl
  have q6 := A1.out.cell (i := 0) rfl 6 (.slice none 0 0) rfl
  have f0 := A1.out.free (i := 0) rfl 0
  have f1 := A1.out.free (i := 0) rfl 1
  have f2 := A1.out.free (i := 0) rfl 2
  have f3 := A1.out.free (i := 0) rfl 3
  have f4 := A1.out.free (i := 0) rfl 4
  have f5 := A1.out.free (i := 0) rfl 5
  have f6 := A1.out.free (i := 0) rfl 6
  rw [alloc_size] at q0 q1 q2 q3 q4 q5 q6 f0 f1 f2 f3 f4 f5 f6
  rw [show ans0 = #[.int .i64 0, .bool false, .int .i64 0, .int .i64 0, .slice none 0 0, .slice none 0 0, .slice none 0 0] from rfl]
  go_wp2
  refine bodyPost_ret (v := .tuple #[.string c, .agg #[.int .i64 0, .bool false, .int .i64 0, .int .i64 0, .slice none 0 0, .slice none 0 0, .slice none 0 0], .bool false, .int .i64 0]) (by simp [results, Tryd.results105, go_sem, *]) rfl ⟨⟨c, rfl, HC.out⟩, ?_⟩
  repeat (refine Below.setCell ?_ (by simp) _)
  exact A1.out.bl
end Go.Proofs.YtajobgmnmbnhiaaDoor.Sap

/- WHAT IS PROVED HERE: what tree.lookUp answers. Conditions: the leaf's two lists are of one length, at most 6. -/
namespace Go.Proofs.YtajobgmnmbnhiaaDoor.Sap
open Go.RowKit

/-- What the first k entries have for a key. -/
def fndB (ks : List Int) (key : Int) : Nat → Bool
  | 0 => false
  | k + 1 => if ks[k]?.getD 0 = key then true else fndB ks key k
def fndV (ks vs : List Int) (key : Int) : Nat → Int
  | 0 => 0
  | k + 1 => if ks[k]?.getD 0 = key then vs[k]?.getD 0 else fndV ks vs key k
def ansG (f : Bool) (v p : Int) : Array Value := #[.int .i64 0, .bool f, .int .i64 v, .int .i64 p, .slice none 0 0, .slice none 0 0, .slice none 0 0]

set_option maxRecDepth 100000 in
set_option maxHeartbeats 3200000 in
theorem lookUp_any (s : St) (n : Nd) (kv vv bv pv xv yv ka va : Value) (w : World) (hv : StV w s kv vv bv pv xv yv) (hk : Rd w ka n.ks) (hva : Rd w va n.vs) (hl : n.ks.length = n.vs.length) (h6 : n.ks.length ≤ 6) :
    Calls Tryd.prog 108 #[.agg #[.int .i64 s.kd, .int .i64 s.key, .int .i64 s.val, .int .i64 s.step, .int .i64 s.pg, kv, vv, bv, pv, .string s.sw, .int .i64 s.ver, xv, yv, .int .i64 s.laid, .int .i64 s.lv, .int .i64 s.low, .int .i64 s.ch, .int .i64 s.pt], .agg #[.int .i64 n.lv, .int .i64 n.lk, .int .i64 n.hi, ka, va]] w fun e w' => e = .returned (.agg (ansG (fndB n.ks s.key n.ks.length) (fndV n.ks n.vs s.key n.ks.length) s.step)) ∧ Below w.heap.size w w' := by
  obtain ⟨ak, ck, rfl⟩ := hv.keys.len
  obtain ⟨av, cv, rfl⟩ := hv.vals.len
  obtain ⟨ab, cb, rfl⟩ := hv.bel.len
  obtain ⟨ap, cp, rfl⟩ := hv.pts.len
  obtain ⟨ax, cx, rfl⟩ := hv.sp.len
  obtain ⟨ay, cy, rfl⟩ := hv.sv.len
  have HK := hideIt hk
  have HV := hideIt hva
  obtain ⟨nk, nc, rfl⟩ := hk.len
  obtain ⟨nva, nvc, rfl⟩ := hva.len
  obtain ⟨m, hm⟩ : ∃ m, n.ks.length = m := ⟨_, rfl⟩
  rw [← hl] at HV ⊢
  rw [hm] at HK HV h6 ⊢
  clear hv hk hva hl hm
  have A0 := hideIt (((((M.start w).alloc #[.int .i64 s.kd, .int .i64 s.key, .int .i64 s.val, .int .i64 s.step, .int .i64 s.pg, .slice ak s.keys.length ck, .slice av s.vals.length cv, .slice ab s.bel.length cb, .slice ap s.pts.length cp, .string s.sw, .int .i64 s.ver, .slice ax s.sp.length cx, .slice ay s.sv.length cy, .int .i64 s.laid, .int .i64 s.lv, .int .i64 s.low, .int .i64 s.ch, .int .i64 s.pt] 98).alloc #[.int .i64 n.lv, .int .i64 n.lk, .int .i64 n.hi, .slice nk m nc, .slice nva m nvc] 24).alloc (ansG false 0 0) 76).alloc (ansG false 0 s.step) 76)
  rw [alloc_size, alloc_size, alloc_size] at A0
  go_enter Tryd.func108, Tryd.ntmps108
  go_wp2
  go_loopw [6] (fun i wr => ∃ k : Nat, k ≤ m ∧ i = .int .i64 k ∧ Hid (M w w.heap.size wr [.blk (w.heap.size + 1 + 1 + 1) (ansG (fndB n.ks s.key k) (fndV n.ks n.vs s.key k) s.step) 76, .blk (w.heap.size + 1 + 1) (ansG false 0 0) 76, .blk (w.heap.size + 1) #[.int .i64 n.lv, .int .i64 n.lk, .int .i64 n.hi, .slice nk m nc, .slice nva m nvc] 24, .blk w.heap.size #[.int .i64 s.kd, .int .i64 s.key, .int .i64 s.val, .int .i64 s.step, .int .i64 s.pg, .slice ak s.keys.length ck, .slice av s.vals.length cv, .slice ab s.bel.length cb, .slice ap s.pts.length cp, .string s.sw, .int .i64 s.ver, .slice ax s.sp.length cx, .slice ay s.sv.length cy, .int .i64 s.laid, .int .i64 s.lv, .int .i64 s.low, .int .i64 s.ch, .int .i64 s.pt] 98])) (fun i _ => m - (intOf i).toNat)
  case atStart => exact ⟨0, Nat.zero_le _, rfl, A0.out⟩
  case round =>
    clear A0
    obtain ⟨k, hk, rfl, hM⟩ := hrel
    have c1 := hM.out.cell (i := 3) rfl 1 (.int .i64 s.key) rfl
    have d3 := hM.out.cell (i := 2) rfl 3 (.slice nk m nc) rfl
    have d4 := hM.out.cell (i := 2) rfl 4 (.slice nva m nvc) rfl
    have a0 := hM.out.cell (i := 0) rfl 0 (.int .i64 0) rfl
    have a1 := hM.out.cell (i := 0) rfl 1 (.bool (fndB n.ks s.key k)) rfl
    have a2 := hM.out.cell (i := 0) rfl 2 (.int .i64 (fndV n.ks n.vs s.key k)) rfl
    have a3 := hM.out.cell (i := 0) rfl 3 (.int .i64 s.step) rfl
    have a4 := hM.out.cell (i := 0) rfl 4 (.slice none 0 0) rfl
    have a5 := hM.out.cell (i := 0) rfl 5 (.slice none 0 0) rfl
    have a6 := hM.out.cell (i := 0) rfl 6 (.slice none 0 0) rfl
    have f1 := hM.out.free (i := 0) rfl 1
    have f2 := hM.out.free (i := 0) rfl 2
    by_cases hlt : k < m
    · obtain ⟨b1, o1, rfl, -, x1⟩ := HK.out.elem k hlt
      obtain ⟨b2, o2, rfl, -, x2⟩ := HV.out.elem k hlt
      have y1 := x1 _ hM.out.bl
      have y2 := x2 _ hM.out.bl
      have HF : Hid (fndB n.ks s.key (k + 1) = (if n.ks[k]?.getD 0 = s.key then true else fndB n.ks s.key k) ∧ fndV n.ks n.vs s.key (k + 1) = if n.ks[k]?.getD 0 = s.key then n.vs[k]?.getD 0 else fndV n.ks n.vs s.key k) := ⟨rfl, rfl⟩
      obtain ⟨a, ha⟩ : ∃ y, n.ks[k]?.getD 0 = y := ⟨_, rfl⟩
      obtain ⟨b, hb⟩ : ∃ y, n.vs[k]?.getD 0 = y := ⟨_, rfl⟩
      rw [ha] at y1 HF
      rw [hb] at y2 HF
      have hkk : (0 : Int) ≤ (k : Int) := by omega
      have hkl : (k : Int) < (m : Int) := by omega
      have hbn : b2 ≠ w.heap.size + 1 + 1 + 1 ∨ True := Or.inr trivial
      clear x1 x2 ha hb hbn
      by_cases hak : a = s.key
      · have hae : (a == s.key) = true := by simp [hak]
        rw [if_pos hak, if_pos hak] at HF
        have S1 := hM.out.store (i := 0) (j := 1) rfl (.bool true) rfl
        have S2 := S1.store (i := 0) (j := 2) rfl (.int .i64 b) rfl
        have HS := hideIt (fun d => (M.drewN S2 d))
        have hlb : b2 < w.heap.size := HV.out.blk_lt k hlt
        have hne : b2 ≠ w.heap.size + 1 + 1 + 1 := by omega
        clear S1 S2 hak
        go_wp2
        go_quiet (fail)
        go_wp2
        go_roundw
        case rel => exact ⟨k + 1, by omega, by go_num, by rw [HF.out.1, HF.out.2]; exact HS.out _⟩
        case measure => simp [intOf]; omega
      · have hae : (a == s.key) = false := by simp [hak]
        rw [if_neg hak, if_neg hak] at HF
        clear hak
        go_wp2
        go_quiet (fail)
        go_wp2
        go_roundw
        case rel => exact ⟨k + 1, by omega, by go_num, by rw [HF.out.1, HF.out.2]; exact hM.out.drewN _⟩
        case measure => simp [intOf]; omega
    · obtain rfl : k = m := by omega
      have r0 := hM.out.cell (i := 1) rfl 0 (.int .i64 0) rfl
      have r1 := hM.out.cell (i := 1) rfl 1 (.bool false) rfl
      have r2 := hM.out.cell (i := 1) rfl 2 (.int .i64 0) rfl
      have r3 := hM.out.cell (i := 1) rfl 3 (.int .i64 0) rfl
      have r4 := hM.out.cell (i := 1) rfl 4 (.slice none 0 0) rfl
      have r5 := hM.out.cell (i := 1) rfl 5 (.slice none 0 0) rfl
      have r6 := hM.out.cell (i := 1) rfl 6 (.slice none 0 0) rfl
      have g0 := hM.out.free (i := 1) rfl 0
      have g1 := hM.out.free (i := 1) rfl 1
      have g2 := hM.out.free (i := 1) rfl 2
      have g3 := hM.out.free (i := 1) rfl 3
      have g4 := hM.out.free (i := 1) rfl 4
      have g5 := hM.out.free (i := 1) rfl 5
      have g6 := hM.out.free (i := 1) rfl 6
      go_wp2
      refine bodyPost_ret (v := .agg (ansG (fndB n.ks s.key k) (fndV n.ks n.vs s.key k) s.step)) (by simp [results, Tryd.results108, go_sem, ansG, *]) rfl ⟨rfl, ?_⟩
      repeat (refine Below.setCell ?_ (by show w.heap.size ≤ w.heap.size + 1 + 1; omega) _)
      exact hM.out.bl
end Go.Proofs.YtajobgmnmbnhiaaDoor.Sap
