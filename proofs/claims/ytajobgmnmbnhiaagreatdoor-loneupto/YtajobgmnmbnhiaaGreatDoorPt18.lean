/- WHAT IS PROVED HERE: what saplingkeep's table answers (find, value, within), and when an access of an operation took place (point). Conditions: the lists are short; named at each theorem. -/
import Derived.Test.YtajobgmnmbnhiaaGreatDoorPt07
import Derived.Test.YtajobgmnmbnhiaaGreatDoorPt10
namespace Go.Proofs.YtajobgmnmbnhiaaGreatDoor.Sap
open Go.RowKit
def FindR (K : List Int) (key : Int) (r : Int) : Prop := (r = -1 ∧ key ∉ K) ∨ ∃ i : Nat, r = (i : Int) ∧ K[i]? = some key ∧ ∀ j, j < i → K[j]?.getD 0 ≠ key
def ValR (K V : List Int) (key : Int) (fd : Bool) (v : Int) : Prop := (fd = false ∧ v = 0 ∧ key ∉ K) ∨ ∃ i : Nat, fd = true ∧ K[i]? = some key ∧ V[i]? = some v ∧ ∀ j, j < i → K[j]?.getD 0 ≠ key
set_option maxRecDepth 100000 in
set_option maxHeartbeats 1600000 in
theorem find_any (gt : Nat) (tk : Value) (K : List Int) (key : Int) (w : World) (h0 : w.cell? ⟨gt, 0, none⟩ = some tk) (hK : Rd w tk K) (hl : K.length ≤ 1000000000) :
    Calls Tryz.prog 29 #[.pointer (some ⟨gt, 0, none⟩), .int .i64 key] w fun e w' => ∃ r, e = .returned (.int .i64 r) ∧ FindR K key r ∧ w' = w := by
  have HK := hideIt hK
  obtain ⟨ak, ck, rfl⟩ := hK.len
  obtain ⟨m, hm⟩ : ∃ m, K.length = m := ⟨_, rfl⟩
  have HM := hideIt hm
  rw [hm] at HK hl h0
  clear hK hm
  go_enter Tryz.func29, Tryz.ntmps29
  go_wp2
  go_loopw [5] (fun i wr => ∃ k : Nat, k ≤ m ∧ i = .int .i64 k ∧ wr = w ∧ Hid (∀ j, j < k → K[j]?.getD 0 ≠ key)) (fun i _ => m - (intOf i).toNat)
  case atStart => exact ⟨0, Nat.zero_le _, rfl, rfl, fun j hj => by omega⟩
  case round =>
    obtain ⟨k, hk, rfl, rfl, hI⟩ := hrel
    by_cases hlt : k < m
    · obtain ⟨b1, o1, rfl, -, x1⟩ := HK.out.elem k hlt
      have y1 := x1 _ (Below.refl _ _)
      obtain ⟨a, ha⟩ : ∃ y, K[k]?.getD 0 = y := ⟨_, rfl⟩
      rw [ha] at y1
      have HA := hideIt ha
      have hkk : (0 : Int) ≤ (k : Int) := by omega
      have hkl : (k : Int) < (m : Int) := by omega
      clear x1 ha
      by_cases hak : a = key
      · have hae : (a == key) = true := by simp [hak]
        have HAK := hideIt hak
        clear hak
        go_wp2
        go_ret
        refine ⟨k, rfl, Or.inr ⟨k, rfl, ?_, hI.out⟩, rfl⟩
        have := HA.out
        rw [List.getElem?_eq_getElem (by rw [HM.out]; exact hlt)] at this ⊢
        simp at this
        rw [this, HAK.out]
      · have hae : (a == key) = false := by simp [hak]
        have HAK := hideIt hak
        clear hak
        go_wp2
        go_roundw
        case rel =>
          refine ⟨k + 1, by omega, by go_num, by trivial, fun j hj => ?_⟩
          rcases Nat.lt_or_ge j k with h | h
          · exact hI.out j h
          · obtain rfl : j = k := by omega
            rw [HA.out]; exact HAK.out
        case measure => simp [intOf]; omega
    · obtain rfl : k = m := by omega
      go_wp2
      go_ret
      refine ⟨-1, rfl, Or.inl ⟨rfl, fun hmem => ?_⟩, rfl⟩
      obtain ⟨j, hj⟩ := List.mem_iff_getElem?.1 hmem
      have hjl := (List.getElem?_eq_some_iff.1 hj).1
      exact hI.out j (by rw [← HM.out]; exact hjl) (by rw [hj]; rfl)
set_option maxRecDepth 100000 in
set_option maxHeartbeats 1600000 in
theorem value_any (gt : Nat) (tk tv : Value) (K V : List Int) (key : Int) (w : World) (h0 : w.cell? ⟨gt, 0, none⟩ = some tk) (h1 : w.cell? ⟨gt, 1, none⟩ = some tv) (hK : Rd w tk K) (hV : Rd w tv V) (hl : K.length ≤ 1000000000) (hkv : K.length = V.length) :
    Calls Tryz.prog 12 #[.pointer (some ⟨gt, 0, none⟩), .int .i64 key] w fun e w' => ∃ fd v, e = .returned (.tuple #[.bool fd, .int .i64 v]) ∧ ValR K V key fd v ∧ Below w.heap.size w w' := by
  have C := hideIt (find_any gt tk K key w h0 hK hl)
  have HV := hideIt hV
  have HKV := hideIt hkv
  obtain ⟨av, cv, rfl⟩ := hV.len
  obtain ⟨m, hm⟩ : ∃ m, V.length = m := ⟨_, rfl⟩
  have HM := hideIt hm
  rw [hm] at HV h1
  have hml : m ≤ 1000000000 := by omega
  clear hK hV hl hkv h0 hm
  go_enter Tryz.func12, Tryz.ntmps12
  go_wp2_with fail
  refine C.out.mono ?_
  rintro e w' ⟨r, rfl, hF, rfl⟩
  clear C
  rcases hF with ⟨rfl, hno⟩ | ⟨i, rfl, h1', h2'⟩
  · have HNO := hideIt hno
    clear hno
    go_wp2
    go_ret2
    exact ⟨_, _, rfl, Or.inl ⟨rfl, rfl, HNO.out⟩, Below.refl _ _⟩
  · have hil : i < m := by rw [← HM.out, ← HKV.out]; exact (List.getElem?_eq_some_iff.1 h1').1
    obtain ⟨b1, o1, rfl, -, x1⟩ := HV.out.elem i hil
    have y1 := x1 _ (Below.refl _ _)
    obtain ⟨a, ha⟩ : ∃ y, V[i]?.getD 0 = y := ⟨_, rfl⟩
    rw [ha] at y1
    have HA := hideIt ha
    have H1 := hideIt h1'
    have H2 := hideIt h2'
    have hi0 : (0 : Int) ≤ (i : Int) := by omega
    have hi1 : (i : Int) < (m : Int) := by omega
    clear x1 ha h1' h2'
    go_wp2
    go_quiet (fail)
    go_wp2
    go_ret2
    refine ⟨_, _, rfl, Or.inr ⟨i, rfl, H1.out, ?_, H2.out⟩, ⟨rfl, rfl, rfl, Nat.le_refl _, fun _ _ => rfl⟩⟩
    have := HA.out
    rw [List.getElem?_eq_getElem (by rw [HM.out]; exact hil)] at this ⊢
    simp at this
    rw [this]
set_option maxRecDepth 100000 in
set_option maxHeartbeats 1600000 in
theorem point_yes (gd : Nat) (tm : Value) (ts : List Int) (p : Nat) (w : World) (h0 : w.cell? ⟨gd, 4, none⟩ = some tm) (hT : Rd w tm ts) (hp : p < ts.length) :
    Calls Tryz.prog 30 #[.pointer (some ⟨gd, 0, none⟩), .int .i64 p] w fun e w' => e = .returned (.tuple #[.int .i64 (ts[p]?.getD 0), .bool true]) ∧ Below w.heap.size w w' := by
  have HT := hideIt hT
  obtain ⟨ak, ck, rfl⟩ := hT.len
  obtain ⟨m, hm⟩ : ∃ m, ts.length = m := ⟨_, rfl⟩
  rw [hm] at HT h0 hp
  obtain ⟨b1, o1, rfl, -, x1⟩ := HT.out.elem p hp
  have y1 := x1 _ (Below.refl _ _)
  obtain ⟨x, hx⟩ : ∃ y, ts[p]?.getD 0 = y := ⟨_, rfl⟩
  rw [hx] at y1 ⊢
  have hp0 : (0 : Int) ≤ (p : Int) := by omega
  have hp1 : (p : Int) < (m : Int) := by omega
  have hd1 : decide ((p : Int) < 0) = false := by rw [decide_eq_false_iff_not]; omega
  have hd2 : decide ((m : Int) ≤ (p : Int)) = false := by rw [decide_eq_false_iff_not]; omega
  clear x1 hx hT hm
  go_enter Tryz.func30, Tryz.ntmps30
  go_wp2
  go_ret2
  exact ⟨rfl, Below.refl _ _⟩
end Go.Proofs.YtajobgmnmbnhiaaGreatDoor.Sap
