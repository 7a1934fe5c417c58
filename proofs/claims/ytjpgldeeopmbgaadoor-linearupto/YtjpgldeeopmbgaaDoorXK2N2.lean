/- WHAT IS PROVED HERE: plain facts of sorting by merging: rows of so many, each in the order of times, two by two made one. No program's function is walked. Conditions: none. -/
import Derived.Test.YtjpgldeeopmbgaaDoorXA5K1
namespace Go.Proofs.YtjpgldeeopmbgaaDoor.Sap
open Go.RowKit

/-- A Put or a Drop that took effect, and when. -/
structure Dn where
  t : Int
  k : Int
  key : Int
  v : Int

def tAt (l : List Dn) (i : Nat) : Int := (l[i]?.map Dn.t).getD 0
def seg2 (l : List Dn) (a b : Nat) : List Dn := (l.take b).drop a
def Srt (l : List Dn) : Prop := l.Pairwise fun a b => a.t ≤ b.t
/-- Rows of W, each in the order of times. -/
def Blk (W : Nat) (l : List Dn) : Prop := ∀ q a b, q * W ≤ a → a < b → b < (q + 1) * W → b < l.length → tAt l a ≤ tAt l b

theorem seg2_succ (l : List Dn) (a b : Nat) (d : Dn) (hab : a ≤ b) (h : l[b]? = some d) : seg2 l a (b + 1) = seg2 l a b ++ [d] := by
  obtain ⟨hl, he⟩ := List.getElem?_eq_some_iff.1 h
  unfold seg2
  rw [List.take_add_one, h, Option.toList_some, List.drop_append_of_le_length (by rw [List.length_take]; omega)]
theorem seg2_nil (l : List Dn) (a : Nat) : seg2 l a a = [] := by unfold seg2; simp
theorem seg2_app (l : List Dn) (a b c : Nat) (hab : a ≤ b) (hbc : b ≤ c) : seg2 l a b ++ seg2 l b c = seg2 l a c := by
  unfold seg2
  rw [List.drop_take, List.drop_take, List.drop_take, show c - a = (b - a) + (c - b) by omega, List.take_add, List.drop_drop, show a + (b - a) = b by omega]
theorem tAt_get {l : List Dn} {i : Nat} {d : Dn} (h : l[i]? = some d) : tAt l i = d.t := by unfold tAt; rw [h]; rfl
theorem len_seg2 (l : List Dn) (a b : Nat) : (seg2 l a b).length = min b l.length - a := by unfold seg2; simp

/-- Two rows, made one as far as i and j. -/
structure Mrg (l : List Dn) (W fr i j : Nat) (mm : List Dn) : Prop where
  pm : mm.Perm (seg2 l fr i ++ seg2 l (fr + W) j)
  so : Srt mm
  i0 : fr ≤ i
  i1 : i ≤ fr + W
  j0 : fr + W ≤ j
  j1 : j ≤ fr + 2 * W
  hi : i < fr + W → i < l.length → ∀ x ∈ mm, x.t ≤ tAt l i
  hj : j < fr + 2 * W → j < l.length → ∀ x ∈ mm, x.t ≤ tAt l j

theorem Mrg.start (l : List Dn) (W fr : Nat) : Mrg l W fr fr (fr + W) [] :=
  ⟨by rw [seg2_nil, seg2_nil]; exact .refl _, .nil, Nat.le_refl _, by omega, Nat.le_refl _, by omega, fun _ _ x hx => (List.not_mem_nil hx).elim, fun _ _ x hx => (List.not_mem_nil hx).elim⟩

theorem srt_snoc {mm : List Dn} {d : Dn} (h : Srt mm) (h2 : ∀ x ∈ mm, x.t ≤ d.t) : Srt (mm ++ [d]) :=
  List.pairwise_append.2 ⟨h, List.pairwise_singleton _ _, fun a ha b hb => by rcases List.mem_singleton.1 hb with rfl; exact h2 a ha⟩

theorem Mrg.takeI {l : List Dn} {W q i j : Nat} {mm : List Dn} {d : Dn} (h : Mrg l W (q * (2 * W)) i j mm) (hB : Blk W l) (hi : i < q * (2 * W) + W) (hd : l[i]? = some d) (hle : j < q * (2 * W) + 2 * W → j < l.length → d.t ≤ tAt l j) : Mrg l W (q * (2 * W)) (i + 1) j (mm ++ [d]) := by
  have hl := (List.getElem?_eq_some_iff.1 hd).1
  have ht := tAt_get hd
  have i0 := h.i0
  refine ⟨?_, srt_snoc h.so (by rw [← ht]; exact h.hi hi hl), by omega, by omega, h.j0, h.j1, ?_, ?_⟩
  · rw [seg2_succ _ _ _ d h.i0 hd]
    refine (h.pm.append_right [d]).trans ?_
    rw [List.append_assoc, List.append_assoc]
    exact List.Perm.append_left _ List.perm_append_comm
  · intro h1 h2 x hx
    have hn : tAt l i ≤ tAt l (i + 1) := hB (2 * q) i (i + 1) (by rw [show 2 * q * W = q * (2 * W) by rw [Nat.mul_comm 2 q, Nat.mul_assoc]]; omega) (by omega) (by rw [show (2 * q + 1) * W = q * (2 * W) + W by rw [Nat.add_mul, Nat.mul_comm 2 q, Nat.mul_assoc, Nat.one_mul]]; omega) h2
    rcases List.mem_append.1 hx with hx | hx
    · exact Int.le_trans (h.hi hi hl x hx) hn
    · rcases List.mem_singleton.1 hx with rfl
      rw [← ht]; exact hn
  · intro h1 h2 x hx
    rcases List.mem_append.1 hx with hx | hx
    · exact h.hj h1 h2 x hx
    · rcases List.mem_singleton.1 hx with rfl
      exact hle h1 h2

theorem Mrg.takeJ {l : List Dn} {W q i j : Nat} {mm : List Dn} {d : Dn} (h : Mrg l W (q * (2 * W)) i j mm) (hB : Blk W l) (hj : j < q * (2 * W) + 2 * W) (hd : l[j]? = some d) (hle : i < q * (2 * W) + W → i < l.length → d.t ≤ tAt l i) : Mrg l W (q * (2 * W)) i (j + 1) (mm ++ [d]) := by
  have hl := (List.getElem?_eq_some_iff.1 hd).1
  have ht := tAt_get hd
  have j0 := h.j0
  refine ⟨?_, srt_snoc h.so (by rw [← ht]; exact h.hj hj hl), h.i0, h.i1, by omega, by omega, ?_, ?_⟩
  · rw [seg2_succ _ _ _ d h.j0 hd, ← List.append_assoc]
    exact h.pm.append_right [d]
  · intro h1 h2 x hx
    rcases List.mem_append.1 hx with hx | hx
    · exact h.hi h1 h2 x hx
    · rcases List.mem_singleton.1 hx with rfl
      exact hle h1 h2
  · intro h1 h2 x hx
    have hn : tAt l j ≤ tAt l (j + 1) := hB (2 * q + 1) j (j + 1) (by rw [show (2 * q + 1) * W = q * (2 * W) + W by rw [Nat.add_mul, Nat.mul_comm 2 q, Nat.mul_assoc, Nat.one_mul]]; omega) (by omega) (by rw [show (2 * q + 1 + 1) * W = q * (2 * W) + 2 * W by rw [Nat.add_assoc, Nat.add_mul, Nat.mul_comm 2 q, Nat.mul_assoc]]; omega) h2
    rcases List.mem_append.1 hx with hx | hx
    · exact Int.le_trans (h.hj hj hl x hx) hn
    · rcases List.mem_singleton.1 hx with rfl
      rw [← ht]; exact hn

/-- The rows that were made one so far: as many as there are, each in order. -/
structure Mds (l : List Dn) (W q : Nat) (out : List Dn) : Prop where
  pm : out.Perm (l.take (q * (2 * W)))
  bl : Blk (2 * W) out

theorem Mds.start (l : List Dn) (W : Nat) : Mds l W 0 [] := ⟨by simp, fun _ _ _ _ _ _ h => by simp at h⟩

theorem srt_at {mm : List Dn} (h : Srt mm) (a b : Nat) (hab : a < b) (hb : b < mm.length) : tAt mm a ≤ tAt mm b := by
  rw [tAt_get (List.getElem?_eq_getElem (show a < mm.length by omega)), tAt_get (List.getElem?_eq_getElem hb)]
  exact List.pairwise_iff_getElem.1 h a b (by omega) hb hab

theorem Mds.step {l : List Dn} {W q i j : Nat} {out mm : List Dn} (h : Mds l W q out) (hm : Mrg l W (q * (2 * W)) i j mm) (hlt : q * (2 * W) < l.length) (hi : ¬ (i < q * (2 * W) + W ∧ i < l.length)) (hj : ¬ (j < q * (2 * W) + 2 * W ∧ j < l.length)) : Mds l W (q + 1) (out ++ mm) := by
  have i0 := hm.i0
  have i1 := hm.i1
  have j0 := hm.j0
  have j1 := hm.j1
  have e1 : (q + 1) * (2 * W) = q * (2 * W) + 2 * W := by rw [Nat.add_mul, Nat.one_mul]
  have hlen : out.length = q * (2 * W) := by rw [h.pm.length_eq, List.length_take]; omega
  have hseg : seg2 l (q * (2 * W)) i ++ seg2 l (q * (2 * W) + W) j = seg2 l (q * (2 * W)) (q * (2 * W) + 2 * W) := by
    have a1 : seg2 l (q * (2 * W)) i = seg2 l (q * (2 * W)) (q * (2 * W) + W) := by
      rcases Nat.lt_or_ge i (q * (2 * W) + W) with h1 | h1
      · have h2 : l.length ≤ i := by
          rcases Nat.lt_or_ge i l.length with h3 | h3
          · exact absurd ⟨h1, h3⟩ hi
          · exact h3
        unfold seg2
        rw [List.take_of_length_le h2, List.take_of_length_le (by omega)]
      · rw [show i = q * (2 * W) + W by omega]
    have a2 : seg2 l (q * (2 * W) + W) j = seg2 l (q * (2 * W) + W) (q * (2 * W) + 2 * W) := by
      rcases Nat.lt_or_ge j (q * (2 * W) + 2 * W) with h1 | h1
      · have h2 : l.length ≤ j := by
          rcases Nat.lt_or_ge j l.length with h3 | h3
          · exact absurd ⟨h1, h3⟩ hj
          · exact h3
        unfold seg2
        rw [List.take_of_length_le h2, List.take_of_length_le (by omega)]
      · rw [show j = q * (2 * W) + 2 * W by omega]
    rw [a1, a2]
    exact seg2_app l _ _ _ (by omega) (by omega)
  have hml : mm.length ≤ 2 * W := by
    rw [hm.pm.length_eq, hseg, len_seg2]; omega
  refine ⟨?_, ?_⟩
  · rw [e1]
    have hp := hm.pm
    rw [hseg] at hp
    refine (h.pm.append hp).trans ?_
    have : l.take (q * (2 * W)) = seg2 l 0 (q * (2 * W)) := by unfold seg2; simp
    rw [this, seg2_app l 0 _ _ (by omega) (by omega)]
    unfold seg2
    simp
  · intro r a b h1 h2 h3 h4
    rw [List.length_append, hlen] at h4
    have hrr : (r + 1) * (2 * W) = r * (2 * W) + 2 * W := by rw [Nat.add_mul, Nat.one_mul]
    rcases Nat.lt_or_ge b (q * (2 * W)) with hb | hb
    · have ea : tAt (out ++ mm) a = tAt out a := by unfold tAt; rw [List.getElem?_append_left (by omega)]
      have eb : tAt (out ++ mm) b = tAt out b := by unfold tAt; rw [List.getElem?_append_left (by omega)]
      rw [ea, eb]
      exact h.bl r a b h1 h2 h3 (by omega)
    · have hqr : q * (2 * W) ≤ a := by
        have : q ≤ r := by
          rcases Nat.lt_or_ge r q with h5 | h5
          · have := Nat.mul_le_mul_right (2 * W) (show r + 1 ≤ q by omega)
            omega
          · exact h5
        have := Nat.mul_le_mul_right (2 * W) this
        omega
      have ea : tAt (out ++ mm) a = tAt mm (a - q * (2 * W)) := by unfold tAt; rw [List.getElem?_append_right (by omega), hlen]
      have eb : tAt (out ++ mm) b = tAt mm (b - q * (2 * W)) := by unfold tAt; rw [List.getElem?_append_right (by omega), hlen]
      rw [ea, eb]
      exact srt_at hm.so _ _ (by omega) (by omega)

theorem Mds.done {l : List Dn} {W q : Nat} {out : List Dn} (h : Mds l W q out) (hq : l.length ≤ q * (2 * W)) : out.Perm l ∧ Blk (2 * W) out := by
  refine ⟨?_, h.bl⟩
  have := h.pm
  rw [List.take_of_length_le hq] at this
  exact this

theorem blk_one (l : List Dn) : Blk 1 l := fun q a b h1 h2 h3 _ => by omega
theorem blk_all {W : Nat} {l : List Dn} (h : Blk W l) (hW : l.length ≤ W) : Srt l := by
  refine List.pairwise_iff_getElem.2 fun a b ha hb hab => ?_
  have := h 0 a b (by omega) hab (by omega) hb
  rw [tAt_get (List.getElem?_eq_getElem ha), tAt_get (List.getElem?_eq_getElem hb)] at this
  exact this
end Go.Proofs.YtjpgldeeopmbgaaDoor.Sap

/- WHAT IS PROVED HERE: saplingkeep's world with all its operations as it lies in memory, and one access of any client's operation as a step of it. Conditions: what Next and Tell answer at the operation's frame is given; the access is one that the document lets. -/
namespace Go.Proofs.YtjpgldeeopmbgaaDoor.Sap
open Go.RowKit

/-- An operation, and where it lies. -/
structure Dd where
  gd : Nat
  kg : Nat
  kc : Nat
  tm : Value
  kv : Value
  vv : Value
  cv : Value
  k : Int
  key : Int
  v : Int
  f : ByteArray
  ts : List Int
  kns : List Int
  rf : Bool
  en : Bool
  er : Int
  fd : Bool
  va : Int
  pt : Int
  ks : List Int
  vs : List Int
  cs : List (Int × Int)

def Dd.hd (d : Dd) : List As :=
  [.blk d.gd (DC d.k d.key d.v d.f d.tm (.slice (some ⟨d.kg, 0, none⟩) 64 d.kc) d.rf d.en d.er d.fd d.va d.pt d.kv d.vv d.cv) 68, .row 3 1 (.slice (some ⟨d.kg, 0, none⟩) 64 d.kc) 64 (ints d.kns), .row 3 1 d.tm d.ts.length (ints d.ts)]
def Dd.tl (d : Dd) : List As :=
  [.row 3 1 d.kv d.ks.length (ints d.ks), .row 3 1 d.vv d.vs.length (ints d.vs), .row 112 2 d.cv d.cs.length (cutc d.cs)]
def Dd.as (d : Dd) : List As := d.hd ++ d.tl
/-- It has not ended. -/
def Dd.live (d : Dd) : Prop := d.en = false ∧ d.er = 0 ∧ d.fd = false ∧ d.va = 0 ∧ d.pt = 0 ∧ d.kv = .slice none 0 0 ∧ d.vv = .slice none 0 0 ∧ d.cv = .slice none 0 0 ∧ d.ks = [] ∧ d.vs = [] ∧ d.cs = []
def Dd.ptr (d : Dd) : Value := .pointer (some ⟨d.gd, 0, none⟩)

/-- The world, and where it lies. -/
structure Wd where
  gw : Nat
  tg : Nat
  tc : Nat
  ug : Nat
  uc : Nat
  vg : Nat
  vc : Nat
  bg : Nat
  bc : Nat
  dv : Value
  T : List ByteArray
  U : List Bool
  V : List Int
  bs : List Int
  now : Int
  puts : Int
  rf : Bool
  wt : Bool
  kp : Bool
  cv : Value
  ov : Value
  ds : List Dd

def Wd.hd (x : Wd) : List As :=
  [.blk x.gw (WC (.slice (some ⟨x.tg, 0, none⟩) 64 x.tc) (.slice (some ⟨x.ug, 0, none⟩) 64 x.uc) (.slice (some ⟨x.vg, 0, none⟩) 64 x.vc) x.dv (.slice (some ⟨x.bg, 0, none⟩) 64 x.bc) x.now x.puts x.rf false x.wt false x.kp x.cv x.ov false) 58,
   .row 3 1 (.slice (some ⟨x.bg, 0, none⟩) 64 x.bc) 64 (ints x.bs), .row 61 1 x.dv x.ds.length (x.ds.map Dd.ptr), .row 9 1 (.slice (some ⟨x.tg, 0, none⟩) 64 x.tc) 64 (strs x.T), .row 4 1 (.slice (some ⟨x.ug, 0, none⟩) 64 x.uc) 64 (bools x.U), .row 3 1 (.slice (some ⟨x.vg, 0, none⟩) 64 x.vc) 64 (ints x.V)]
def Wd.as (x : Wd) : List As := x.hd ++ x.ds.flatMap Dd.as

theorem perm_deed (W A D N C fr : List As) : (D ++ (W ++ (N ++ (A ++ (C ++ fr))))).Perm ((W ++ (A ++ ((D ++ N) ++ C))) ++ fr) := by
  have h1 : (W ++ (A ++ ((D ++ N) ++ C))) ++ fr = W ++ (A ++ ((D ++ N) ++ (C ++ fr))) := by simp
  rw [h1]
  refine (List.perm_append_comm_assoc D W _).trans (List.Perm.append_left W ?_)
  rw [← List.append_assoc D N]
  exact List.perm_append_comm_assoc (D ++ N) A _

/-- An operation of the world, and the others. -/
theorem Wd.split (x : Wd) (i : Nat) (d : Dd) (hd : x.ds[i]? = some d) : x.ds.flatMap Dd.as = (x.ds.take i).flatMap Dd.as ++ ((d.hd ++ d.tl) ++ (x.ds.drop (i + 1)).flatMap Dd.as) := by
  have hl := (List.getElem?_eq_some_iff.1 hd).1
  have e : x.ds = x.ds.take i ++ d :: x.ds.drop (i + 1) := by
    rw [← (List.getElem?_eq_some_iff.1 hd).2, List.getElem_cons_drop, List.take_append_drop]
  refine (congrArg (List.flatMap Dd.as) e).trans ?_
  rw [List.flatMap_append, List.flatMap_cons]
  rfl

theorem set_split {α : Type} (l : List α) (i : Nat) (d' : α) (hi : i < l.length) : l.set i d' = l.take i ++ d' :: l.drop (i + 1) := by
  rw [List.set_eq_take_append_cons_drop, if_pos hi]

theorem map_set_ptr (l : List Dd) (i : Nat) (d d' : Dd) (hd : l[i]? = some d) (hp : d'.gd = d.gd) : (l.set i d').map Dd.ptr = l.map Dd.ptr := by
  rw [List.map_set]
  have hi := (List.getElem?_eq_some_iff.1 hd).1
  have e : d'.ptr = (l.map Dd.ptr)[i]'(by simpa using hi) := by
    rw [List.getElem_map, (List.getElem?_eq_some_iff.1 hd).2]
    unfold Dd.ptr; rw [hp]
  rw [e, List.set_getElem_self]

theorem LM.pg {w0 W : World} {B : Nat} {a b : As} {gd kg kc gw tg tc ug uc vg vc dg dc bg bc nd : Nat} {k key v : Int} {f : ByteArray} {tm : Value} {nt : Nat} {drf : Bool} {kns ts : List Int} {now puts : Int} {rf wt kp : Bool} {cv ov : Value} {bs : List Int} {ds : List Value} {T : List ByteArray} {U : List Bool} {V : List Int} {fr : List As} (h : M w0 B W (a :: b :: LM gd kg kc gw tg tc ug uc vg vc dg dc bg bc nd k key v f tm nt drf kns ts now puts rf wt kp cv ov bs ds T U V fr)) : PgR gw tg tc ug uc T U W := by
  refine ⟨h.cell (i := 5) rfl 0 _ rfl, h.cell (i := 5) rfl 1 _ rfl, fun p hp => ?_⟩
  have h1 := (h.get (i := 8) rfl).own.1
  have h2 := (h.get (i := 9) rfl).own.1
  simp [strs] at h1
  simp [bools] at h2
  have ht : T[p]? = some (T[p]'(by omega)) := List.getElem?_eq_getElem (by omega)
  have hu : U[p]? = some (U[p]'(by omega)) := List.getElem?_eq_getElem (by omega)
  exact ⟨_, _, ht, hu, h.rowCell (i := 8) rfl p _ (strs_get ht), h.rowCell (i := 9) rfl p _ (bools_get hu)⟩

set_option maxRecDepth 100000 in
set_option maxHeartbeats 1600000 in
theorem sys_go (x : Wd) (d : Dd) (c i : Nat) (ak ap av rv rp : Int) (at' rt : ByteArray) (rd drf' : Bool) (kns' V' : List Int) (T' : List ByteArray) (U' : List Bool) (P : ByteArray → Prop) (fr : List As) (w0 w : World) (B : Nat) (htab : Tab w0) (hB : B = w0.heap.size) (hc : c < 64) (hb : x.bs[c]? = some (i : Int)) (hd : x.ds[i]? = some d) (hlive : d.live) (hkp : x.kp = false)
    (hStands : x.wt = true → ak ≠ 1 → ∀ W, PgR x.gw x.tg x.tc x.ug x.uc T' U' W → Calls Tryd.prog 92 #[.pointer (some ⟨x.gw, 0, none⟩)] W fun e w' => e = .returned (.bool true) ∧ Below W.heap.size W w')
    (hnd : x.ds.length ≤ 100000000) (hnt : d.ts.length ≤ 100000000) (hnw : 0 ≤ x.now ∧ x.now ≤ 100000000000)
    (hNext : ∀ W, Calls Tryd.prog 29 #[.string d.f] W fun e w' => e = .returned (.tuple #[.agg #[.int .i64 ak, .int .i64 ap, .int .i64 av, .string at'], .int .i64 0]) ∧ Below W.heap.size W w')
    (hA : AccR d.k ak ap av at' x.T x.U x.V d.kns d.rf rv rp rt rd T' U' V' kns' drf')
    (hTell : ∀ W, Tab W → Calls Tryd.prog 70 #[.string d.f, .agg #[.int .i64 rv, .int .i64 rp, .string rt, .bool rd]] W fun e w' => GoR P W w' e)
    (h : M w0 B w (x.as ++ fr)) :
    Calls Tryd.prog 63 #[.pointer (some ⟨x.gw, 0, none⟩), .int .i64 c] w fun e w' => (∃ u, e = .returned u) ∧ ∃ tm' f', P f' ∧ M w0 B w' (({ x with T := T', U := U', V := V', now := x.now + 1, rf := x.rf || drf', ds := x.ds.set i { d with tm := tm', f := f', ts := d.ts ++ [x.now], kns := kns', rf := drf' } } : Wd).as ++ fr) := by
  have hil := (List.getElem?_eq_some_iff.1 hd).1
  have e1 := x.split i d hd
  have hx : x.as = x.hd ++ ((x.ds.take i).flatMap Dd.as ++ ((d.hd ++ d.tl) ++ (x.ds.drop (i + 1)).flatMap Dd.as)) := by unfold Wd.as; rw [e1]
  rw [hx] at h
  have h1 := h.perm (perm_deed x.hd ((x.ds.take i).flatMap Dd.as) d.hd d.tl ((x.ds.drop (i + 1)).flatMap Dd.as) fr)
  obtain ⟨dg, dc, hdv⟩ := As.form (h1.get (i := 5) rfl) (show 0 < x.ds.length by omega)
  obtain ⟨en, er, fd, va, pt, hkv, hvv, hcv, hks, hvs, hcs⟩ := hlive
  have hdp : (x.ds.map Dd.ptr)[i]? = some (.pointer (some ⟨d.gd, 0, none⟩)) := by rw [List.getElem?_map, hd]; rfl
  have hLM : d.hd ++ (x.hd ++ (d.tl ++ ((x.ds.take i).flatMap Dd.as ++ ((x.ds.drop (i + 1)).flatMap Dd.as ++ fr)))) = LM d.gd d.kg d.kc x.gw x.tg x.tc x.ug x.uc x.vg x.vc dg dc x.bg x.bc x.ds.length d.k d.key d.v d.f d.tm d.ts.length d.rf d.kns d.ts x.now x.puts x.rf x.wt false x.cv x.ov x.bs (x.ds.map Dd.ptr) x.T x.U x.V (d.tl ++ ((x.ds.take i).flatMap Dd.as ++ ((x.ds.drop (i + 1)).flatMap Dd.as ++ fr))) := by
    unfold Dd.hd Wd.hd LM
    rw [hdv, en, er, fd, va, pt, hkv, hvv, hcv, hkp]
    rfl
  rw [hLM] at h1
  refine (move_go d.gd d.kg d.kc d.ts.length x.gw x.tg x.tc x.ug x.uc x.vg x.vc dg dc x.bg x.bc x.ds.length i c x.cv x.ov x.now x.puts d.k d.key d.v ak ap av rv rp d.f at' rt rd d.rf drf' x.rf x.wt d.kns kns' x.bs x.V V' (x.ds.map Dd.ptr) d.ts x.T T' x.U U' d.tm P _ w0 w B htab hB hc hb hdp hnd (by simp) hnt hnw hNext
    (fun W ga hW => acc_legal hA hW)
    (fun W ga hW => acc_act hA hW)
    (fun W ga gr hW => acc_learns hA hW)
    (fun hw hk W ga gr hW => hStands hw hk W (LM.pg hW))
    hTell h1).mono ?_
  rintro e w' ⟨he, tm', f', hP, hM⟩
  refine ⟨he, tm', f', hP, ?_⟩
  obtain ⟨d', hd'⟩ : ∃ y : Dd, y = { d with tm := tm', f := f', ts := d.ts ++ [x.now], kns := kns', rf := drf' } := ⟨_, rfl⟩
  rw [← hd']
  obtain ⟨x', hx'⟩ : ∃ y : Wd, y = { x with T := T', U := U', V := V', now := x.now + 1, rf := x.rf || drf', ds := x.ds.set i d' } := ⟨_, rfl⟩
  rw [← hx']
  have hg : d'.gd = d.gd := by rw [hd']
  have e2 : x'.as = x'.hd ++ ((x.ds.take i).flatMap Dd.as ++ ((d'.hd ++ d'.tl) ++ (x.ds.drop (i + 1)).flatMap Dd.as)) := by
    unfold Wd.as
    rw [show x'.ds = x.ds.set i d' by rw [hx'], set_split _ _ _ hil, List.flatMap_append, List.flatMap_cons]
    rfl
  rw [e2]
  refine M.perm ?_ (perm_deed x'.hd ((x.ds.take i).flatMap Dd.as) d'.hd d'.tl ((x.ds.drop (i + 1)).flatMap Dd.as) fr).symm
  have e3 : d'.hd ++ (x'.hd ++ (d'.tl ++ ((x.ds.take i).flatMap Dd.as ++ ((x.ds.drop (i + 1)).flatMap Dd.as ++ fr)))) = LM d.gd d.kg d.kc x.gw x.tg x.tc x.ug x.uc x.vg x.vc dg dc x.bg x.bc x.ds.length d.k d.key d.v f' tm' (d.ts.length + 1) drf' kns' (d.ts ++ [x.now]) (x.now + 1) x.puts (x.rf || drf') x.wt false x.cv x.ov x.bs (x.ds.map Dd.ptr) T' U' V' (d.tl ++ ((x.ds.take i).flatMap Dd.as ++ ((x.ds.drop (i + 1)).flatMap Dd.as ++ fr))) := by
    have e4 : x'.ds.map Dd.ptr = x.ds.map Dd.ptr := by rw [hx']; exact map_set_ptr x.ds i d d' hd hg
    have e5 : x'.ds.length = x.ds.length := by rw [hx']; simp
    have e6 : d'.tl = d.tl := by rw [hd']; rfl
    rw [e6]
    unfold Dd.hd Wd.hd LM
    rw [e4, e5]
    subst hx' hd'
    simp only [List.length_append, List.length_singleton, hdv, en, er, fd, va, pt, hkv, hvv, hcv, hkp]
    rfl
  rw [e3]
  exact hM
set_option maxRecDepth 100000 in
set_option maxHeartbeats 1600000 in
theorem sys_end (x : Wd) (d : Dd) (c i : Nat) (ak ap av rv rp : Int) (at' rt : ByteArray) (rd drf' : Bool) (kns' V' : List Int) (T' : List ByteArray) (U' : List Bool) (er : Int) (fd : Bool) (va pt : Int) (ks vs : List Int) (cs : List (Int × Int)) (fr : List As) (w0 w : World) (B : Nat) (htab : Tab w0) (hB : B = w0.heap.size) (hc : c < 64) (hb : x.bs[c]? = some (i : Int)) (hd : x.ds[i]? = some d) (hlive : d.live) (hkp : x.kp = false)
    (hStands : x.wt = true → ak ≠ 1 → ∀ W, PgR x.gw x.tg x.tc x.ug x.uc T' U' W → Calls Tryd.prog 92 #[.pointer (some ⟨x.gw, 0, none⟩)] W fun e w' => e = .returned (.bool true) ∧ Below W.heap.size W w')
    (hnd : x.ds.length ≤ 100000000) (hnt : d.ts.length ≤ 100000000) (hnw : 0 ≤ x.now ∧ x.now ≤ 100000000000)
    (hNext : ∀ W, Calls Tryd.prog 29 #[.string d.f] W fun e w' => e = .returned (.tuple #[.agg #[.int .i64 ak, .int .i64 ap, .int .i64 av, .string at'], .int .i64 0]) ∧ Below W.heap.size W w')
    (hA : AccR d.k ak ap av at' x.T x.U x.V d.kns d.rf rv rp rt rd T' U' V' kns' drf')
    (hTell : ∀ W, Tab W → Calls Tryd.prog 70 #[.string d.f, .agg #[.int .i64 rv, .int .i64 rp, .string rt, .bool rd]] W fun e w' => FinR er fd va pt ks vs cs W w' e)
    (h : M w0 B w (x.as ++ fr)) :
    Calls Tryd.prog 63 #[.pointer (some ⟨x.gw, 0, none⟩), .int .i64 c] w fun e w' => (∃ u, e = .returned u) ∧ ∃ tm' kv vv cv, M w0 B w' (({ x with T := T', U := U', V := V', bs := x.bs.set c (-1), now := x.now + 1, rf := x.rf || drf', ds := x.ds.set i { d with tm := tm', f := ⟨#[]⟩, ts := d.ts ++ [x.now], kns := kns', rf := drf', en := true, er := er, fd := fd, va := va, pt := pt, kv := kv, vv := vv, cv := cv, ks := ks, vs := vs, cs := cs } } : Wd).as ++ fr) := by
  have hil := (List.getElem?_eq_some_iff.1 hd).1
  have e1 := x.split i d hd
  have hx : x.as = x.hd ++ ((x.ds.take i).flatMap Dd.as ++ ((d.hd ++ d.tl) ++ (x.ds.drop (i + 1)).flatMap Dd.as)) := by unfold Wd.as; rw [e1]
  rw [hx] at h
  have h1 := h.perm (perm_deed x.hd ((x.ds.take i).flatMap Dd.as) d.hd d.tl ((x.ds.drop (i + 1)).flatMap Dd.as) fr)
  obtain ⟨dg, dc, hdv⟩ := As.form (h1.get (i := 5) rfl) (show 0 < x.ds.length by omega)
  obtain ⟨en, her, hfd, hva, hpt, hkv, hvv, hcv, hks, hvs, hcs⟩ := hlive
  have hdp : (x.ds.map Dd.ptr)[i]? = some (.pointer (some ⟨d.gd, 0, none⟩)) := by rw [List.getElem?_map, hd]; rfl
  have hLM : d.hd ++ (x.hd ++ (d.tl ++ ((x.ds.take i).flatMap Dd.as ++ ((x.ds.drop (i + 1)).flatMap Dd.as ++ fr)))) = LM d.gd d.kg d.kc x.gw x.tg x.tc x.ug x.uc x.vg x.vc dg dc x.bg x.bc x.ds.length d.k d.key d.v d.f d.tm d.ts.length d.rf d.kns d.ts x.now x.puts x.rf x.wt false x.cv x.ov x.bs (x.ds.map Dd.ptr) x.T x.U x.V (d.tl ++ ((x.ds.take i).flatMap Dd.as ++ ((x.ds.drop (i + 1)).flatMap Dd.as ++ fr))) := by
    unfold Dd.hd Wd.hd LM
    rw [hdv, en, her, hfd, hva, hpt, hkv, hvv, hcv, hkp]
    rfl
  rw [hLM] at h1
  refine (move_end d.gd d.kg d.kc d.ts.length x.gw x.tg x.tc x.ug x.uc x.vg x.vc dg dc x.bg x.bc x.ds.length i c x.cv x.ov x.now x.puts d.k d.key d.v ak ap av rv rp d.f at' rt rd d.rf drf' x.rf x.wt d.kns kns' x.bs x.V V' (x.ds.map Dd.ptr) d.ts x.T T' x.U U' d.tm er fd va pt ks vs cs _ w0 w B htab hB hc hb hdp hnd (by simp) hnt hnw hNext
    (fun W ga hW => acc_legal hA hW)
    (fun W ga hW => acc_act hA hW)
    (fun W ga gr hW => acc_learns hA hW)
    (fun hw hk W ga gr hW => hStands hw hk W (LM.pg hW))
    hTell h1).mono ?_
  rintro e w' ⟨he, tm', kv, vv, cv, hM⟩
  refine ⟨he, tm', kv, vv, cv, ?_⟩
  obtain ⟨d', hd'⟩ : ∃ y : Dd, y = { d with tm := tm', f := ⟨#[]⟩, ts := d.ts ++ [x.now], kns := kns', rf := drf', en := true, er := er, fd := fd, va := va, pt := pt, kv := kv, vv := vv, cv := cv, ks := ks, vs := vs, cs := cs } := ⟨_, rfl⟩
  rw [← hd']
  obtain ⟨x', hx'⟩ : ∃ y : Wd, y = { x with T := T', U := U', V := V', bs := x.bs.set c (-1), now := x.now + 1, rf := x.rf || drf', ds := x.ds.set i d' } := ⟨_, rfl⟩
  rw [← hx']
  have hg : d'.gd = d.gd := by rw [hd']
  have e2 : x'.as = x'.hd ++ ((x.ds.take i).flatMap Dd.as ++ ((d'.hd ++ d'.tl) ++ (x.ds.drop (i + 1)).flatMap Dd.as)) := by
    unfold Wd.as
    rw [show x'.ds = x.ds.set i d' by rw [hx'], set_split _ _ _ hil, List.flatMap_append, List.flatMap_cons]
    rfl
  rw [e2]
  refine M.perm ?_ (perm_deed x'.hd ((x.ds.take i).flatMap Dd.as) d'.hd d'.tl ((x.ds.drop (i + 1)).flatMap Dd.as) fr).symm
  have e4 : x'.ds.map Dd.ptr = x.ds.map Dd.ptr := by rw [hx']; exact map_set_ptr x.ds i d d' hd hg
  have e5 : x'.ds.length = x.ds.length := by rw [hx']; simp
  have e3 : d'.tl ++ (d'.hd ++ (x'.hd ++ (d.tl ++ ((x.ds.take i).flatMap Dd.as ++ ((x.ds.drop (i + 1)).flatMap Dd.as ++ fr))))) = LE d.gd d.kg d.kc x.gw x.tg x.tc x.ug x.uc x.vg x.vc dg dc x.bg x.bc x.ds.length d.k d.key d.v tm' (d.ts.length + 1) drf' er fd va pt kv vv cv ks vs cs kns' (d.ts ++ [x.now]) (x.now + 1) x.puts (x.rf || drf') x.wt false x.cv x.ov (x.bs.set c (-1)) (x.ds.map Dd.ptr) T' U' V' (d.tl ++ ((x.ds.take i).flatMap Dd.as ++ ((x.ds.drop (i + 1)).flatMap Dd.as ++ fr))) := by
    obtain ⟨z, hz⟩ : ∃ z, d.tl ++ ((x.ds.take i).flatMap Dd.as ++ ((x.ds.drop (i + 1)).flatMap Dd.as ++ fr)) = z := ⟨_, rfl⟩
    rw [hz]
    unfold Dd.hd Dd.tl Wd.hd LE
    rw [e4, e5]
    subst hx' hd'
    simp only [List.length_append, List.length_singleton, hdv, hkp]
    rfl
  rw [← e3] at hM
  have h5 := hM.perm (l' := d'.tl ++ (d'.hd ++ (x'.hd ++ ((x.ds.take i).flatMap Dd.as ++ ((x.ds.drop (i + 1)).flatMap Dd.as ++ fr)))) ++ d.tl) (by
    refine (List.perm_append_comm).trans ?_
    refine (List.perm_append_comm_assoc _ _ _).trans (List.Perm.append_left _ ?_)
    refine (List.perm_append_comm_assoc _ _ _).trans (List.Perm.append_left _ ?_)
    exact List.perm_append_comm_assoc _ _ _)
  have h6 := h5.sub (List.sublist_append_left _ _)
  exact h6.perm ((List.Perm.append_left _ (List.perm_append_comm_assoc _ _ _)).trans (List.perm_append_comm_assoc _ _ _))
end Go.Proofs.YtjpgldeeopmbgaaDoor.Sap

/- WHAT IS PROVED HERE: saplingkeep's alone: a client moves alone till its operation ends. Conditions: each of its accesses keeps a given invariant of the world and comes nearer to the end (hstep). -/
namespace Go.Proofs.YtjpgldeeopmbgaaDoor.Sap
open Go.RowKit

set_option maxRecDepth 100000 in
set_option maxHeartbeats 6400000 in
theorem alone_gen (c gw : Nat) (I : Wd → Prop) (rk : Wd → Nat) (fr : List As) (w0 w : World) (B : Nat) (x0 : Wd) (hc : c < 64) (hgw : ∀ x, I x → x.gw = gw) (hbs : ∀ x, I x → x.bs[c]? = some (-1) ∨ (∃ i : Nat, x.bs[c]? = some (i : Int)) ∧ 0 < rk x)
    (hstep : ∀ x (i : Nat) W, I x → x.bs[c]? = some (i : Int) → M w0 B W (x.as ++ fr) → Calls Tryd.prog 63 #[.pointer (some ⟨gw, 0, none⟩), .int .i64 c] W fun e w' => (∃ u, e = .returned u) ∧ ∃ x', I x' ∧ rk x' < rk x ∧ M w0 B w' (x'.as ++ fr))
    (hI : I x0) (h0 : rk x0 ≤ 1000) (h : M w0 B w (x0.as ++ fr)) :
    Calls Tryd.prog 32 #[.pointer (some ⟨gw, 0, none⟩), .int .i64 c] w fun e w' => (∃ u, e = .returned u) ∧ ∃ x', I x' ∧ x'.bs[c]? = some (-1) ∧ M w0 B w' (x'.as ++ fr) := by
  have hc0 : (0 : Int) ≤ (c : Int) := by omega
  have hc1 : (c : Int) < 64 := by omega
  have HM := hideIt h
  have HI := hideIt hI
  have HGW := hideIt hgw
  have HBS := hideIt hbs
  have HS := hideIt hstep
  clear h hI hgw hbs hstep
  go_enter Tryd.func32, Tryd.ntmps32
  go_wp2
  go_loopw [4] (fun y wr => ∃ (j n : Nat) (x : Wd), y = .int .i64 j ∧ j + n ≤ 1000 ∧ Hid (rk x = n) ∧ Hid (I x) ∧ Hid (M w0 B wr (x.as ++ fr))) (fun i _ => 1000 - (intOf i).toNat)
  case atStart => exact ⟨0, rk x0, x0, rfl, by omega, rfl, HI.out, HM.out⟩
  case round =>
    clear HM HI
    obtain ⟨j, n, x, rfl, hj, hr, hI, hM⟩ := hrel
    have hg := HGW.out x hI.out
    subst hg
    have g14 := hM.out.cell (i := 0) rfl 14 (.bool false) rfl
    have g4 := hM.out.cell (i := 0) rfl 4 (.slice (some ⟨x.bg, 0, none⟩) 64 x.bc) rfl
    rcases HBS.out x hI.out with hb | ⟨⟨i, hb⟩, hpos⟩
    · have b0 := hM.out.rowCell (i := 1) rfl c (.int .i64 (-1)) (ints_get hb)
      have e14 := hM.out.free (i := 0) rfl 14
      have S1 := hideIt (hM.out.store (i := 0) (j := 14) rfl (.bool false) rfl)
      have HB := hideIt hb
      clear hM hb
      by_cases hj1 : (j : Int) < 1000
      · go_wp2
        exact bodyPost_end (results_none Tryd.results32 _ _ _) rfl ⟨⟨_, rfl⟩, x, hI.out, HB.out, S1.out⟩
      · go_wp2
        exact bodyPost_end (results_none Tryd.results32 _ _ _) rfl ⟨⟨_, rfl⟩, x, hI.out, HB.out, S1.out⟩
    · have b0 := hM.out.rowCell (i := 1) rfl c (.int .i64 i) (ints_get hb)
      rw [hr.out] at hpos
      have hj1 : (j : Int) < 1000 := by omega
      have hi0 : (0 : Int) ≤ (i : Int) := by omega
      have CM := hideIt (HS.out x i wr hI.out hb hM.out)
      clear hM hb hI
      go_wp2_with fail
      refine CM.out.mono ?_
      rintro e w1 ⟨⟨u, rfl⟩, x', hI', hr', hM'⟩
      have HI2 := hideIt hI'
      have HM2 := hideIt hM'
      rw [hr.out] at hr'
      clear CM g14 g4 b0 hI' hM'
      go_wp2
      go_roundw
      case rel => exact ⟨j + 1, rk x', x', by go_num, by omega, rfl, HI2.out, HM2.out⟩
      case measure => simp [intOf]; omega
end Go.Proofs.YtjpgldeeopmbgaaDoor.Sap
