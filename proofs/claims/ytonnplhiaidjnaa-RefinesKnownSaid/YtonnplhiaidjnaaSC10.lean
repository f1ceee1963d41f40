/-
  Contracts: slices.Grow and slices.Concat over pairs.
-/
import Derived.Test.YtonnplhiaidjnaaSkB
import Derived.Shelf.Spec.SlicesGrow
namespace Go.Proofs.Ytonnplhiaidjnaa
open Go.RowKit Go.Shelf

def growRen : Go.Shelf.Ren := ⟨fun | 4 => 80 | n => n, fun | 22 => 103 | 25 => 42 | 0 => 0 | 3 => 3 | 4 => 4 | 9 => 9 | 20 => 20 | n => n, fun n => n⟩
theorem growL : Lays8.n4 Try.prog growRen := {
  mixed := by kernel_rfl
  f4 := ⟨"slices.Grow[[][2]int,[2]int]", by kernel_rfl, Try.func80.trans (congrArg some (by kernel_rfl))⟩
  t0 := Try.underlying0
  a0 := Try.isAgg0
  z0 := Try.sizeOf0
  v0 := Try.zeroValue0
  t3 := Try.underlying3
  a3 := Try.isAgg3
  z3 := Try.sizeOf3
  v3 := Try.zeroValue3
  t4 := Try.underlying4
  a4 := Try.isAgg4
  z4 := Try.sizeOf4
  v4 := Try.zeroValue4
  t9 := Try.underlying9
  a9 := Try.isAgg9
  z9 := Try.sizeOf9
  v9 := Try.zeroValue9
  t20 := Try.underlying20
  a20 := Try.isAgg20
  z20 := Try.sizeOf20
  v20 := Try.zeroValue20
  t22 := Try.underlying103
  a22 := Try.isAgg103
  z22 := Try.sizeOf103
  v22 := Try.zeroValue103 }

theorem grow_none (w : World) :
    Calls Try.prog 80 #[.slice none 0 0, .int .i64 0] w fun e w' => e = .returned (.slice none 0 0) ∧ w' = w := Any8.slices_Grow_room growL none 0 0 0 w (by omega) (by omega) (by omega) (by omega)
theorem grow_own {w w' : World} {X : Array Value} {cap : Nat} (hw : w' = w.drew.alloc (.cells X 42)) (hX : X.size = cap * 2) (hcap : cap ≤ maxLen) : OwnP w' w.heap.size (.slice (some ⟨w.heap.size, 0, none⟩) 0 cap) 0 [] := by
  subst hw
  exact ⟨rfl, .inr ⟨w.heap.size, cap, X, rfl, Nat.le_refl _, heap_alloc_new w.drew _, Nat.zero_le _, hcap, hX, by simp [pcells]⟩⟩
/-- A slice of pairs with room, or none for nothing. -/
theorem grow_any (n : Nat) (w : World) (hn : n ≤ 1000000) :
    Calls Try.prog 80 #[.slice none 0 0, .int .i64 n] w fun e w' => ∃ A c, e = .returned (.slice A 0 c) ∧ OwnP w' w.heap.size (.slice A 0 c) 0 [] ∧ Below w.heap.size w w' := by
  obtain ⟨i0, hi0, hz0, hz1, hz2⟩ := info_parts pair_info
  rcases Nat.eq_zero_or_pos n with h | h
  · subst h
    refine (grow_none w).mono ?_
    rintro e w' ⟨rfl, rfl⟩
    exact ⟨none, 0, rfl, World.ownsRow_nil _ _ _ _, Below.refl _ _⟩
  · refine (Any8.slices_Grow_grow growL i0 _ hi0 hz0 (by rw [hz1]; omega) none 0 0 n [] w (by omega) (by omega) (by rw [hz2]; omega) (by omega) (by simp) (fun _ => rfl) (fun a e => by cases e)).mono ?_
    rintro e w' ⟨rfl, rfl⟩
    have hcap : grownCap w (0 + n) 0 (growRen.t 25) ≤ maxLen := grownCap_le_maxLen _ _ _ _ (by unfold maxLen; omega)
    have hge : 0 + n ≤ grownCap w (0 + n) 0 (growRen.t 25) := grownCap_ge _ _ _ _
    exact ⟨_, _, rfl, grow_own rfl (by simp only [Nat.zero_add] at hge ⊢; simp [size_zeroCells, Value.cells]; omega) hcap, (below_drewN' (Below.refl _ w) 1).alloc (Nat.le_refl _) _⟩

theorem RdQ.news {w : World} {b off : Nat} {ps : List (Int × Int)} (h : RdQ w (some ⟨b, off, none⟩) ps) : ∀ (j : Nat) (u : Value), (pcells ps)[j]? = some u → w.cell? ((⟨b, off, none⟩ : Addr).add j) = some u := fun j u hu => by
  have hj : j < ps.length * 2 := by
    rcases Nat.lt_or_ge j (ps.length * 2) with h1 | h1
    · exact h1
    · rw [List.getElem?_eq_none (by rw [pcells_len]; exact h1)] at hu; cases hu
  obtain ⟨b', off', e, hb, hc⟩ := h (by omega)
  injection e with e
  injection e with e1 e2
  subst e1 e2
  have h1 := hc (j / 2) (by omega)
  have h2 := pcells_at ps (j / 2) (by omega)
  rw [Addr.add_lit]
  rcases Nat.mod_two_eq_zero_or_one j with h3 | h3
  · have e : j / 2 * 2 = j := by omega
    rw [e] at h1 h2
    rw [h1.1, ← h2.1, hu]
  · have e : j / 2 * 2 + 1 = j := by omega
    rw [Nat.add_assoc, e] at h1
    rw [e] at h2
    rw [h1.2, ← h2.2, hu]
theorem pcells_one (ps : List (Int × Int)) : ∀ u ∈ pcells ps, u.oneCell' = true := by
  intro u hu
  unfold pcells at hu
  obtain ⟨x, _, h⟩ := List.mem_flatMap.1 hu
  simp at h
  rcases h with rfl | rfl <;> rfl

/-- A list of pairs in new memory. -/
def BuiltP (w : World) (ps : List (Int × Int)) (e : Ending) (w' : World) : Prop := ∃ A c, e = .returned (.slice A ps.length c) ∧ RdQ w' A ps ∧ Below w.heap.size w w'

theorem BuiltP.mk {w w' : World} {ps : List (Int × Int)} {A : Option Addr} {m c : Nat} (hm : ps.length = m) (hr : RdQ w' A ps) (hb : Below w.heap.size w w') : BuiltP w ps (.returned (.slice A m c)) w' := by
  subst hm
  exact ⟨A, c, rfl, hr, hb⟩

set_option maxRecDepth 100000 in
set_option maxHeartbeats 1000000 in
theorem pconcat_any (L b1 o1 b2 o2 n1 n2 c1 c2 : Nat) (ps qs : List (Int × Int)) (w : World) (hL1 : w.cell? ⟨L, 0, none⟩ = some (.slice (some ⟨b1, o1, none⟩) n1 c1)) (hL2 : w.cell? ⟨L, 1, none⟩ = some (.slice (some ⟨b2, o2, none⟩) n2 c2))
    (hL : L < w.heap.size) (hp : RdQ w (some ⟨b1, o1, none⟩) ps) (hq : RdQ w (some ⟨b2, o2, none⟩) qs) (e1 : ps.length = n1) (e2 : qs.length = n2) (h1 : n1 ≤ 256) (h2 : n2 ≤ 256) :
    Calls Try.prog 60 #[.slice (some ⟨L, 0, none⟩) 2 2] w (BuiltP w (ps ++ qs)) := by
  obtain ⟨i0, hi0, hz0, hz1, hz2⟩ := info_parts pair_info
  have E1 := Lib.hid e1
  have E2 := Lib.hid e2
  clear e1 e2
  go_enter Try.func60, Try.ntmps60
  go_wp2
  refine wp_loop_rounds 3 ?_
  rw [rounds_succ]
  go_wp2
  rw [rounds_succ]
  go_wp2
  rw [rounds_succ]
  go_wp2_with fail
  have G := grow_any (n1 + n2) w (by omega)
  rw [Int.natCast_add] at G
  refine G.mono ?_
  rintro e w1 ⟨A, c, rfl, hown, hb1⟩
  have hs1 := hb1.size
  have hL1' : w1.cell? ⟨L, 0, none⟩ = some (.slice (some ⟨b1, o1, none⟩) n1 c1) := (hb1.cell (p := ⟨L, 0, none⟩) hL).trans hL1
  have hp1 := hp.below hb1
  have P1 := Lib.hid hp1.news
  clear G hL1 hp1
  go_wp2
  refine wp_loop_rounds 3 ?_
  rw [rounds_succ]
  go_wp2_with (at_builtin; refine wpList_append_own _ rfl _ _ 103 rfl w.heap.size 42 i0 (.agg #[.int .i64 0, .int .i64 0]) 2 16 Try.underlying103 hi0 hz0 hz1 hz2 rfl (by decide) _ _ _ rfl hown ⟨b1, o1, none⟩ n1 c1 (pcells ps) rfl (by rw [pcells_len, E1.out]) P1.out (pcells_one ps) (by unfold maxLen; omega) (by omega) hs1 ?_; intro v2 w2 hown2 hg2 _)
  have hb2 : Below w.heap.size w w2 := hb1.grown hg2 hs1 (fun j hj => (hown.lt j hj).1)
  have hs2 := hb2.size
  have hL2' : w2.cell? ⟨L, 1, none⟩ = some (.slice (some ⟨b2, o2, none⟩) n2 c2) := (hb2.cell (p := ⟨L, 1, none⟩) hL).trans hL2
  have hq2 := hq.below hb2
  have P2 := Lib.hid hq2.news
  clear hL1' hL2 P1 hown hg2 hq2
  go_wp2
  rw [rounds_succ]
  go_wp2_with (at_builtin; refine wpList_append_own _ rfl _ _ 103 rfl w.heap.size 42 i0 (.agg #[.int .i64 0, .int .i64 0]) 2 16 Try.underlying103 hi0 hz0 hz1 hz2 rfl (by decide) _ _ _ rfl hown2 ⟨b2, o2, none⟩ n2 c2 (pcells qs) rfl (by rw [pcells_len, E2.out]) P2.out (pcells_one qs) (by unfold maxLen; omega) (by omega) hs2 ?_; intro v3 w3 hown3 hg3 _)
  have hb3 : Below w.heap.size w w3 := hb2.grown hg3 hs2 (fun j hj => (hown2.lt j hj).1)
  have hown4 : OwnP w3 w.heap.size v3 (0 + n1 + n2) (ps ++ qs) := by
    unfold OwnP
    rw [pcells_app]
    exact hown3
  obtain ⟨A3, c3, rfl, _, _⟩ := hown4.form
  have hl := hown4.len
  go_wp2
  rw [rounds_succ]
  go_wp2
  go_ret
  exact BuiltP.mk hl hown4.rd hb3
end Go.Proofs.Ytonnplhiaidjnaa
