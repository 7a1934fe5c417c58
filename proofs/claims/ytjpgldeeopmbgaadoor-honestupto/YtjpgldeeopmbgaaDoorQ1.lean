/- WHAT IS PROVED HERE: saplingkeep's says and fitted: the node of a page. Conditions: the page unpacks, or it is free; named at each theorem. -/
import Derived.Test.YtjpgldeeopmbgaaDoorA5
namespace Go.Proofs.YtjpgldeeopmbgaaDoor.Sap
open Go.RowKit

/-- The pages, in memory. -/
def PgR (gw tg tc ug uc : Nat) (T : List ByteArray) (U : List Bool) (w : World) : Prop :=
  w.cell? ⟨gw, 0, none⟩ = some (.slice (some ⟨tg, 0, none⟩) 64 tc) ∧ w.cell? ⟨gw, 1, none⟩ = some (.slice (some ⟨ug, 0, none⟩) 64 uc) ∧ ∀ p, p < 64 → ∃ t b, T[p]? = some t ∧ U[p]? = some b ∧ w.cell? ⟨tg, p, none⟩ = some (.string t) ∧ w.cell? ⟨ug, p, none⟩ = some (.bool b)
theorem PgR.below {gw tg tc ug uc : Nat} {T : List ByteArray} {U : List Bool} {w w' : World} (h : PgR gw tg tc ug uc T U w) (hb : Below w.heap.size w w') : PgR gw tg tc ug uc T U w' := by
  obtain ⟨h1, h2, h3⟩ := h
  refine ⟨cell_below hb _ _ h1, cell_below hb _ _ h2, fun p hp => ?_⟩
  obtain ⟨t, b, a1, a2, a3, a4⟩ := h3 p hp
  exact ⟨t, b, a1, a2, cell_below hb _ _ a3, cell_below hb _ _ a4⟩
/-- Page p says node n. -/
def Says (T : List ByteArray) (U : List Bool) (p : Nat) (n : Nd) : Prop := p < 64 ∧ U[p]? = some true ∧ ∃ t, T[p]? = some t ∧ Unp t.data.toList n
theorem vals_len {n : Nd} (h : rightB n = true) : n.ks.length = n.vs.length := by
  simp only [rightB, Bool.and_eq_true, decide_eq_true_eq] at h
  omega

theorem M.store5 {w0 w : World} {B i b : Nat} {l : List As} {c0 c1 c2 c3 c4 : Value} {t : TypeId} (h : M w0 B w l) (hi : l[i]? = some (.blk b #[c0, c1, c2, c3, c4] t)) (a0 a1 a2 a3 a4 : Value) :
    M w0 B (((((w.setCell ⟨b, 0, none⟩ a0).setCell ⟨b, 1, none⟩ a1).setCell ⟨b, 2, none⟩ a2).setCell ⟨b, 3, none⟩ a3).setCell ⟨b, 4, none⟩ a4) (l.set i (.blk b #[a0, a1, a2, a3, a4] t)) := by
  have hl : i < l.length := (List.getElem?_eq_some_iff.1 hi).1
  have e : ∀ (a : As), (l.set i a)[i]? = some a := fun a => by rw [List.getElem?_set, if_pos rfl, if_pos hl]
  have s0 := h.store (j := 0) hi a0 (c' := #[a0, c1, c2, c3, c4]) rfl
  have s1 := s0.store (j := 1) (e _) a1 (c' := #[a0, a1, c2, c3, c4]) rfl
  rw [List.set_set] at s1
  have s2 := s1.store (j := 2) (e _) a2 (c' := #[a0, a1, a2, c3, c4]) rfl
  rw [List.set_set] at s2
  have s3 := s2.store (j := 3) (e _) a3 (c' := #[a0, a1, a2, a3, c4]) rfl
  rw [List.set_set] at s3
  have s4 := s3.store (j := 4) (e _) a4 (c' := #[a0, a1, a2, a3, a4]) rfl
  rw [List.set_set] at s4
  exact s4

theorem Own.m {w w' : World} {kv vv : Value} {ks vs : List Int} (h : Own w' w.heap.size kv vv ks vs) (hb : Below w.heap.size w w') : M w w.heap.size w' [.row 3 1 kv ks.length (ints ks), .row 3 1 vv vs.length (ints vs)] := by
  refine ⟨fun a ha => ?_, ?_, hb, hb.size⟩
  · rcases List.mem_cons.1 ha with rfl | ha
    · exact h.1
    · rcases List.mem_singleton.1 ha with rfl
      exact h.2.1
  · exact List.pairwise_cons.2 ⟨fun b hb2 k h1 h2 => by rcases List.mem_singleton.1 hb2 with rfl; exact h.2.2 k h1 h2, List.pairwise_singleton _ _⟩

set_option maxRecDepth 100000 in
set_option maxHeartbeats 3200000 in
theorem says_yes (gw tg tc ug uc p : Nat) (T : List ByteArray) (U : List Bool) (n : Nd) (w : World) (h : PgR gw tg tc ug uc T U w) (hs : Says T U p n) :
    Calls Tryd.prog 67 #[.pointer (some ⟨gw, 0, none⟩), .int .i64 p] w fun e w' => ∃ kv vv, e = .returned (.tuple #[.agg #[.int .i64 n.lv, .int .i64 n.lk, .int .i64 n.hi, kv, vv], .bool true]) ∧ M w w.heap.size w' [.row 3 1 kv n.ks.length (ints n.ks), .row 3 1 vv n.vs.length (ints n.vs)] := by
  obtain ⟨hp, hu, t, ht, hn⟩ := hs
  obtain ⟨c0, c1, c2⟩ := h
  obtain ⟨t', b, a1, a2, a3, a4⟩ := c2 p hp
  rw [ht] at a1; cases a1
  rw [hu] at a2; cases a2
  have A0 := hideIt ((M.start w).alloc #[.int .i64 0, .int .i64 0, .int .i64 0, .slice none 0 0, .slice none 0 0] 24)
  have k0 := cell_below A0.out.bl _ _ c0
  have k1 := hideIt (cell_below A0.out.bl _ _ c1)
  have k3 := cell_below A0.out.bl _ _ a3
  have k4 := hideIt (cell_below A0.out.bl _ _ a4)
  have hsz := size_of_unp ⟨n, hn⟩
  have hp1 : (0 : Int) ≤ (p : Int) := by omega
  have hp2 : (p : Int) < 64 := by omega
  have hle := vals_len hn.1
  have HN := hideIt hn
  clear c0 c1 c2 a3 a4 ht hu hn
  go_enter Tryd.func67, Tryd.ntmps67
  go_wp2_with fail
  refine (there_yes gw ug uc p _ k1.out k4.out hp).mono ?_
  rintro e w1 ⟨rfl, rfl⟩
  go_wp2_with fail
  refine (unpack_any t _ (by omega)).mono ?_
  rintro e w2 ⟨hR, hb⟩
  rcases hR with ⟨n', kv, vv, hn', hO, rfl⟩ | ⟨hno, -⟩
  case inr => exact absurd HN.out (hno n)
  obtain rfl : n' = n := hn'.uniq HN.out
  have A1 := A0.out.join (hO.m hb)
  obtain ⟨ka, kc, rfl⟩ := As.form0 (A1.get (i := 0) rfl)
  obtain ⟨va, vc, rfl⟩ := As.form0 (A1.get (i := 1) rfl)
  have A2 := hideIt (A1.alloc #[.int .i64 n'.lv, .int .i64 n'.lk, .int .i64 n'.hi, .slice ka n'.ks.length kc, .slice va n'.vs.length vc] 24)
  obtain ⟨g0, hg0⟩ : ∃ g, w.heap.size = g := ⟨_, rfl⟩
  have HG := hideIt hg0
  rw [hg0] at A1 A2 ⊢
  have r0 := A1.cell (i := 2) rfl 0 (.int .i64 0) rfl
  have r1 := A1.cell (i := 2) rfl 1 (.int .i64 0) rfl
  have r2 := A1.cell (i := 2) rfl 2 (.int .i64 0) rfl
  have r3 := A1.cell (i := 2) rfl 3 (.slice none 0 0) rfl
  have r4 := A1.cell (i := 2) rfl 4 (.slice none 0 0) rfl
  have f0 := A1.free (i := 2) rfl 0
  have f1 := A1.free (i := 2) rfl 1
  have f2 := A1.free (i := 2) rfl 2
  have f3 := A1.free (i := 2) rfl 3
  have f4 := A1.free (i := 2) rfl 4
  have hl := A1.lt (i := 2) rfl
  have S5 := hideIt ((A1.store5 (i := 2) rfl (.int .i64 n'.lv) (.int .i64 n'.lk) (.int .i64 n'.hi) (.slice ka n'.ks.length kc) (.slice va n'.vs.length vc)).sub (l' := [_, _]) (List.Sublist.cons_cons _ (List.Sublist.cons_cons _ (List.nil_sublist _))))
  have hlb : ((n'.ks.length : Int) == (n'.vs.length : Int)) = true := by simp [hle]
  have hlb2 : (n'.ks.length == n'.vs.length) = true := by simp [hle]
  clear A0 A1 hO hb hn' k0 k3 HN hle hg0
  go_wp2
  go_region
  all_goals
    go_wp2
    refine bodyPost_ret (v := .tuple #[.agg #[.int .i64 n'.lv, .int .i64 n'.lk, .int .i64 n'.hi, .slice ka n'.ks.length kc, .slice va n'.vs.length vc], .bool true]) (by simp [results, Tryd.results67, go_sem, *]) rfl ⟨_, _, rfl, ?_⟩
    rw [HG.out]
    exact (S5.out.allocd _).drew
end Go.Proofs.YtjpgldeeopmbgaaDoor.Sap
