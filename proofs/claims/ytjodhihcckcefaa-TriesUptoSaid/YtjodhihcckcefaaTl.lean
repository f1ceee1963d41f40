/-
  The walk of the law's own lives. No statement is proved here.
-/
import Derived.Test.YtjodhihcckcefaaTlM
namespace Go.Proofs.Ytjodhihcckcefaa
open Go.RowKit Go.Maps

theorem tl_a1 : M.asc [[0], [1], [1, 0]] := by unfold M.asc; decide
theorem tl_v1 : M.Lv [[0], [1], [1, 0]] 2 := ⟨by decide, by decide, by decide, by decide, tl_a1, by decide⟩
theorem tl_a2 : M.asc [[], [0], [1], [1, 0]] := by unfold M.asc; decide
theorem tl_v2 : M.Lv [[], [0], [1], [1, 0]] 2 := ⟨by decide, by decide, by decide, by decide, tl_a2, by decide⟩
theorem tl_reduce (L : Option Addr) (c : Nat) (w : World) (N : Nat) (h : RdS w L [[], [0], [1], [1, 0]]) (hN : N = 4) :
    Calls Try.prog 27 #[.slice L N c, .int .i64 2] w (Lst w (okL 0 [[0], [1, 0]]) 0) := by
  subst hN
  exact reduce_any L c 4 [[], [0], [1], [1, 0]] 2 w h rfl (by decide) 0 (M.chE_zero.2 tl_v2)
theorem tl_a3 : M.asc [[], [1], [1, 0]] := by unfold M.asc; decide
theorem tl_v3 : M.Lv [[1, 0]] 2 := ⟨by decide, by decide, by decide, by decide, by unfold M.asc; decide, by decide⟩
theorem tl_w3 : M.Lv [[], [1], [1, 0]] 2 := ⟨by decide, by decide, by decide, by decide, tl_a3, by decide⟩
theorem tl_a4 : M.asc [[0], [1], [0, 0], [0, 1]] := by unfold M.asc; decide
theorem tl_v4 : M.Lv [[0], [1], [0, 0], [0, 1]] 2 := ⟨by decide, by decide, by decide, by decide, tl_a4, by decide⟩
theorem tl_v4a : M.Lv [[], [0]] 2 := ⟨by decide, by decide, by decide, by decide, by unfold M.asc; decide, by decide⟩
theorem tl_v4b : M.Lv [[0], [1]] 2 := ⟨by decide, by decide, by decide, by decide, by unfold M.asc; decide, by decide⟩
theorem tl_concat (L K : Option Addr) (c d N N2 : Nat) (w : World) (h : RdS w L [[], [0]]) (h2 : RdS w K [[0], [1]]) (hN : N = 2) (hN2 : N2 = 2) :
    Calls Try.prog 35 #[.slice L N c, .slice K N2 d, .int .i64 2] w (Lst w (okL 0 [[0], [1], [0, 0], [0, 1]]) 0) := by
  subst hN hN2
  refine tconcat_any L K c d 2 2 [[], [0]] [[0], [1]] _ 2 w h rfl (by decide) h2 rfl (by decide) tl_a4 (fun x => (mem_both (T := catL [[], [0]] [[0], [1]]) (by decide) (by decide) x).trans catL_mem) 0 (gE_zero ?_ tl_v4)
  unfold chE2
  rw [M.chE_zero.2 tl_v4a, M.chE_zero.2 tl_v4b]
  rfl
theorem tl_a5 : M.asc [[], [0], [1]] := by unfold M.asc; decide
theorem tl_m5 (y : List Int) : y ∈ ([[], [0], [1]] : List (List Int)) ↔ M.Val 2 y ∧ (y.length : Int) ≤ 1 := by
  rw [show ([[], [0], [1]] : List (List Int)) = uptoW 2 1 from rfl, uptoW_mem]
  constructor <;> (rintro ⟨a, b⟩; exact ⟨a, by omega⟩)
theorem bE_ok {n least most : Int} {S : List (List Int)} (h1 : least ≥ 0) (h2 : most ≤ 256) (h : M.Lv S n) : bE n least most S = 0 := by
  unfold bE
  rw [if_neg (by have := h.n1; omega), if_neg (by have := h.n0; omega), if_neg (by omega), if_neg (by omega)]
  exact gE_zero rfl h
theorem tl_b5 : bE 2 (min 1 0) 1 [[], [0], [1]] = 0 := bE_ok (by decide) (by decide) ⟨by decide, by decide, by decide, by decide, tl_a5, by decide⟩
theorem tl_a6 : M.asc [[0, 0], [0, 1], [1, 0], [1, 1]] := by unfold M.asc; decide
theorem tl_m6 (y : List Int) : y ∈ ([[0, 0], [0, 1], [1, 0], [1, 1]] : List (List Int)) ↔ M.Val 2 y ∧ (y.length : Int) = 2 := by
  rw [show ([[0, 0], [0, 1], [1, 0], [1, 1]] : List (List Int)) = allW 2 2 from rfl, allW_mem]
  constructor <;> (rintro ⟨a, b⟩; exact ⟨a, by omega⟩)
theorem tl_b6 : bE 2 2 2 [[0, 0], [0, 1], [1, 0], [1, 1]] = 0 := bE_ok (by decide) (by decide) ⟨by decide, by decide, by decide, by decide, tl_a6, by decide⟩
theorem tl_m7 (y : List Int) : y ∈ uptoW 2 12 ↔ M.Val 2 y ∧ (y.length : Int) ≤ 12 := by
  rw [uptoW_mem]
  constructor <;> (rintro ⟨a, b⟩; exact ⟨a, by omega⟩)
theorem tl_b7 : bE 2 (min 12 0) 12 (uptoW 2 12) = 3 := by
  unfold bE
  rw [if_neg (by decide), if_neg (by decide), if_neg (by decide), if_neg (by decide)]
  refine gE_three rfl fun h => ?_
  have h1 := h.len
  rw [uptoW_succ, List.length_append, allW_len, uptoW_succ, List.length_append, allW_len] at h1
  omega
theorem tl_p : Pfx [[0], [1, 0]] [[], [0], [1], [1, 0]] := ⟨tl_a2, fun x => (mem_both (by decide) (by decide) x).trans mem_pre.symm⟩
theorem tl_v8 : M.Lv [[0], [1, 0]] 2 := ⟨by decide, by decide, by decide, by decide, by unfold M.asc; decide, by decide⟩
/-- The trie of the example. -/
def tlN : List Nd := [([1, 2], false), ([-1, -1], true), ([3, -1], false), ([-1, -1], true)]
theorem tl_n : trN [[], [0], [1], [1, 0]] [[0], [1, 0]] 2 = tlN := by decide
theorem tl_k : Keyz tlN [[], [0], [1], [1, 0]] := by
  rw [← tl_n]
  exact keyz_trN tl_p fun y hy => ⟨M.By.of_check (tl_v8.ck y hy), by have := (M.check_zero_u (tl_v8.ck y hy)).2.2.1; omega⟩
theorem tl_ok : 1 ≤ (2 : Int) ∧ (2 : Int) ≤ 16 ∧ fmB 2 tlN = true ∧ M.chE (enz [[], [0], [1], [1, 0]] tlN) 2 = 0 := ⟨by decide, by decide, by decide, M.chE_zero.2 tl_v8⟩
theorem tl_c1 : M.chE [[1], [0]] 2 = 1 := by unfold M.chE; rw [if_neg (by decide), if_pos (by unfold M.asc; decide)]
theorem tl_c2 : M.chE [[0], [2]] 2 = 1 := by unfold M.chE; rw [if_pos (by decide)]; decide
theorem tl_c3 : M.chE [] 0 = 1 := by unfold M.chE; rw [if_pos (by decide)]; decide
theorem tl_c4 : M.chE [] 17 = 3 := by unfold M.chE; rw [if_pos (by decide)]; decide
set_option maxRecDepth 100000 in
set_option maxHeartbeats 8000000 in
theorem tlives_walk (W : World) : Calls Try.prog 21 #[] W fun e w' => e = .returned (.bool true) ∧ Below W.heap.size W w' := by
  have hL := AllK.nil_ W
  have hB := Below.refl W.heap.size W
  go_enter Try.func21, Try.ntmps21
  go_wp2_with (first
      | (refine wpList_lit1 hL hB (wanted_none rfl) _ rfl rfl ?_; intro wz hL hB)
      | (refine wpList_lit2 hL hB (wanted_none rfl) _ _ rfl rfl rfl ?_; intro wz hL hB)
      | (refine wpList_litW1 hL hB (wanted_none rfl) _ rfl rfl (by first | exact rd_none _ | (have h9 := hL.get 0 rfl; exact h9) | (have h9 := hL.get 1 rfl; exact h9) | (have h9 := hL.get 2 rfl; exact h9) | (have h9 := hL.get 3 rfl; exact h9)) (by rfl) ?_; intro wz hL hB)
      | (refine wpList_litW2 hL hB (wanted_none rfl) _ _ rfl rfl rfl (by first | exact rd_none _ | (have h9 := hL.get 0 rfl; exact h9) | (have h9 := hL.get 1 rfl; exact h9) | (have h9 := hL.get 2 rfl; exact h9) | (have h9 := hL.get 3 rfl; exact h9)) (by first | exact rd_none _ | (have h9 := hL.get 0 rfl; exact h9) | (have h9 := hL.get 1 rfl; exact h9) | (have h9 := hL.get 2 rfl; exact h9) | (have h9 := hL.get 3 rfl; exact h9)) (by rfl) (by rfl) ?_; intro wz hL hB)
      | (refine wpList_litW3 hL hB (wanted_none rfl) _ _ _ rfl rfl rfl rfl (by first | exact rd_none _ | (have h9 := hL.get 0 rfl; exact h9) | (have h9 := hL.get 1 rfl; exact h9) | (have h9 := hL.get 2 rfl; exact h9) | (have h9 := hL.get 3 rfl; exact h9)) (by first | exact rd_none _ | (have h9 := hL.get 0 rfl; exact h9) | (have h9 := hL.get 1 rfl; exact h9) | (have h9 := hL.get 2 rfl; exact h9) | (have h9 := hL.get 3 rfl; exact h9)) (by first | exact rd_none _ | (have h9 := hL.get 0 rfl; exact h9) | (have h9 := hL.get 1 rfl; exact h9) | (have h9 := hL.get 2 rfl; exact h9) | (have h9 := hL.get 3 rfl; exact h9)) (by rfl) (by rfl) (by rfl) ?_; intro wz hL hB)
      | (refine wpList_litW4 hL hB (wanted_none rfl) _ _ _ _ rfl rfl rfl rfl rfl (by first | exact rd_none _ | (have h9 := hL.get 0 rfl; exact h9) | (have h9 := hL.get 1 rfl; exact h9) | (have h9 := hL.get 2 rfl; exact h9) | (have h9 := hL.get 3 rfl; exact h9)) (by first | exact rd_none _ | (have h9 := hL.get 0 rfl; exact h9) | (have h9 := hL.get 1 rfl; exact h9) | (have h9 := hL.get 2 rfl; exact h9) | (have h9 := hL.get 3 rfl; exact h9)) (by first | exact rd_none _ | (have h9 := hL.get 0 rfl; exact h9) | (have h9 := hL.get 1 rfl; exact h9) | (have h9 := hL.get 2 rfl; exact h9) | (have h9 := hL.get 3 rfl; exact h9)) (by first | exact rd_none _ | (have h9 := hL.get 0 rfl; exact h9) | (have h9 := hL.get 1 rfl; exact h9) | (have h9 := hL.get 2 rfl; exact h9) | (have h9 := hL.get 3 rfl; exact h9)) (by rfl) (by rfl) (by rfl) (by rfl) ?_; intro wz hL hB)
      | (refine wpList_litN4 hL hB (wanted_none rfl) _ _ _ _ rfl rfl rfl rfl rfl (by first | exact rd_none _ | (have h9 := hL.get 0 rfl; exact h9) | (have h9 := hL.get 1 rfl; exact h9) | (have h9 := hL.get 2 rfl; exact h9) | (have h9 := hL.get 3 rfl; exact h9)) (by first | exact rd_none _ | (have h9 := hL.get 0 rfl; exact h9) | (have h9 := hL.get 1 rfl; exact h9) | (have h9 := hL.get 2 rfl; exact h9) | (have h9 := hL.get 3 rfl; exact h9)) (by first | exact rd_none _ | (have h9 := hL.get 0 rfl; exact h9) | (have h9 := hL.get 1 rfl; exact h9) | (have h9 := hL.get 2 rfl; exact h9) | (have h9 := hL.get 3 rfl; exact h9)) (by first | exact rd_none _ | (have h9 := hL.get 0 rfl; exact h9) | (have h9 := hL.get 1 rfl; exact h9) | (have h9 := hL.get 2 rfl; exact h9) | (have h9 := hL.get 3 rfl; exact h9)) (by rfl) (by rfl) (by rfl) (by rfl) ?_; (obtain ⟨gN, hgN⟩ : ∃ gN, wz.heap.size = gN := ⟨_, rfl⟩); rw [hgN]; intro wn hL hB)
      | fail)
  refine (list_any _ _ _ _).mono ?_
  rintro e wy ⟨rfl, hwy⟩
  subst hwy
  go_wp2_with (first
      | (refine wpList_lit1 hL hB (wanted_none rfl) _ rfl rfl ?_; intro wz hL hB)
      | (refine wpList_lit2 hL hB (wanted_none rfl) _ _ rfl rfl rfl ?_; intro wz hL hB)
      | (refine wpList_litW1 hL hB (wanted_none rfl) _ rfl rfl (by first | exact rd_none _ | (have h9 := hL.get 0 rfl; exact h9) | (have h9 := hL.get 1 rfl; exact h9) | (have h9 := hL.get 2 rfl; exact h9) | (have h9 := hL.get 3 rfl; exact h9)) (by rfl) ?_; intro wz hL hB)
      | (refine wpList_litW2 hL hB (wanted_none rfl) _ _ rfl rfl rfl (by first | exact rd_none _ | (have h9 := hL.get 0 rfl; exact h9) | (have h9 := hL.get 1 rfl; exact h9) | (have h9 := hL.get 2 rfl; exact h9) | (have h9 := hL.get 3 rfl; exact h9)) (by first | exact rd_none _ | (have h9 := hL.get 0 rfl; exact h9) | (have h9 := hL.get 1 rfl; exact h9) | (have h9 := hL.get 2 rfl; exact h9) | (have h9 := hL.get 3 rfl; exact h9)) (by rfl) (by rfl) ?_; intro wz hL hB)
      | (refine wpList_litW3 hL hB (wanted_none rfl) _ _ _ rfl rfl rfl rfl (by first | exact rd_none _ | (have h9 := hL.get 0 rfl; exact h9) | (have h9 := hL.get 1 rfl; exact h9) | (have h9 := hL.get 2 rfl; exact h9) | (have h9 := hL.get 3 rfl; exact h9)) (by first | exact rd_none _ | (have h9 := hL.get 0 rfl; exact h9) | (have h9 := hL.get 1 rfl; exact h9) | (have h9 := hL.get 2 rfl; exact h9) | (have h9 := hL.get 3 rfl; exact h9)) (by first | exact rd_none _ | (have h9 := hL.get 0 rfl; exact h9) | (have h9 := hL.get 1 rfl; exact h9) | (have h9 := hL.get 2 rfl; exact h9) | (have h9 := hL.get 3 rfl; exact h9)) (by rfl) (by rfl) (by rfl) ?_; intro wz hL hB)
      | (refine wpList_litW4 hL hB (wanted_none rfl) _ _ _ _ rfl rfl rfl rfl rfl (by first | exact rd_none _ | (have h9 := hL.get 0 rfl; exact h9) | (have h9 := hL.get 1 rfl; exact h9) | (have h9 := hL.get 2 rfl; exact h9) | (have h9 := hL.get 3 rfl; exact h9)) (by first | exact rd_none _ | (have h9 := hL.get 0 rfl; exact h9) | (have h9 := hL.get 1 rfl; exact h9) | (have h9 := hL.get 2 rfl; exact h9) | (have h9 := hL.get 3 rfl; exact h9)) (by first | exact rd_none _ | (have h9 := hL.get 0 rfl; exact h9) | (have h9 := hL.get 1 rfl; exact h9) | (have h9 := hL.get 2 rfl; exact h9) | (have h9 := hL.get 3 rfl; exact h9)) (by first | exact rd_none _ | (have h9 := hL.get 0 rfl; exact h9) | (have h9 := hL.get 1 rfl; exact h9) | (have h9 := hL.get 2 rfl; exact h9) | (have h9 := hL.get 3 rfl; exact h9)) (by rfl) (by rfl) (by rfl) (by rfl) ?_; intro wz hL hB)
      | (refine wpList_litN4 hL hB (wanted_none rfl) _ _ _ _ rfl rfl rfl rfl rfl (by first | exact rd_none _ | (have h9 := hL.get 0 rfl; exact h9) | (have h9 := hL.get 1 rfl; exact h9) | (have h9 := hL.get 2 rfl; exact h9) | (have h9 := hL.get 3 rfl; exact h9)) (by first | exact rd_none _ | (have h9 := hL.get 0 rfl; exact h9) | (have h9 := hL.get 1 rfl; exact h9) | (have h9 := hL.get 2 rfl; exact h9) | (have h9 := hL.get 3 rfl; exact h9)) (by first | exact rd_none _ | (have h9 := hL.get 0 rfl; exact h9) | (have h9 := hL.get 1 rfl; exact h9) | (have h9 := hL.get 2 rfl; exact h9) | (have h9 := hL.get 3 rfl; exact h9)) (by first | exact rd_none _ | (have h9 := hL.get 0 rfl; exact h9) | (have h9 := hL.get 1 rfl; exact h9) | (have h9 := hL.get 2 rfl; exact h9) | (have h9 := hL.get 3 rfl; exact h9)) (by rfl) (by rfl) (by rfl) (by rfl) ?_; (obtain ⟨gN, hgN⟩ : ∃ gN, wz.heap.size = gN := ⟨_, rfl⟩); rw [hgN]; intro wn hL hB)
      | fail)
  refine (sort_any _ _ _ [[1, 0], [1], [0], [1]] [[0], [1], [1, 0]] 2 _ (hL.get 0 rfl) rfl (by decide) tl_a1 (mem_both (by decide) (by decide)) 0 (gE_zero (by decide) tl_v1)).mono ?_
  rintro e w1 ⟨Aa, q1, rfl, hq1, hx1, hb1⟩
  rw [okL_ok] at hq1 hx1
  obtain rfl : q1 = 3 := hq1
  have hL := (hL.next hb1).put (P := kRdX Aa [[0], [1], [1, 0]]) hx1
  have hB := below_next hB hb1
  clear hx1 hb1
  go_wp2_with (first
      | (refine wpList_lit1 hL hB (wanted_none rfl) _ rfl rfl ?_; intro wz hL hB)
      | (refine wpList_lit2 hL hB (wanted_none rfl) _ _ rfl rfl rfl ?_; intro wz hL hB)
      | (refine wpList_litW1 hL hB (wanted_none rfl) _ rfl rfl (by first | exact rd_none _ | (have h9 := hL.get 0 rfl; exact h9) | (have h9 := hL.get 1 rfl; exact h9) | (have h9 := hL.get 2 rfl; exact h9) | (have h9 := hL.get 3 rfl; exact h9)) (by rfl) ?_; intro wz hL hB)
      | (refine wpList_litW2 hL hB (wanted_none rfl) _ _ rfl rfl rfl (by first | exact rd_none _ | (have h9 := hL.get 0 rfl; exact h9) | (have h9 := hL.get 1 rfl; exact h9) | (have h9 := hL.get 2 rfl; exact h9) | (have h9 := hL.get 3 rfl; exact h9)) (by first | exact rd_none _ | (have h9 := hL.get 0 rfl; exact h9) | (have h9 := hL.get 1 rfl; exact h9) | (have h9 := hL.get 2 rfl; exact h9) | (have h9 := hL.get 3 rfl; exact h9)) (by rfl) (by rfl) ?_; intro wz hL hB)
      | (refine wpList_litW3 hL hB (wanted_none rfl) _ _ _ rfl rfl rfl rfl (by first | exact rd_none _ | (have h9 := hL.get 0 rfl; exact h9) | (have h9 := hL.get 1 rfl; exact h9) | (have h9 := hL.get 2 rfl; exact h9) | (have h9 := hL.get 3 rfl; exact h9)) (by first | exact rd_none _ | (have h9 := hL.get 0 rfl; exact h9) | (have h9 := hL.get 1 rfl; exact h9) | (have h9 := hL.get 2 rfl; exact h9) | (have h9 := hL.get 3 rfl; exact h9)) (by first | exact rd_none _ | (have h9 := hL.get 0 rfl; exact h9) | (have h9 := hL.get 1 rfl; exact h9) | (have h9 := hL.get 2 rfl; exact h9) | (have h9 := hL.get 3 rfl; exact h9)) (by rfl) (by rfl) (by rfl) ?_; intro wz hL hB)
      | (refine wpList_litW4 hL hB (wanted_none rfl) _ _ _ _ rfl rfl rfl rfl rfl (by first | exact rd_none _ | (have h9 := hL.get 0 rfl; exact h9) | (have h9 := hL.get 1 rfl; exact h9) | (have h9 := hL.get 2 rfl; exact h9) | (have h9 := hL.get 3 rfl; exact h9)) (by first | exact rd_none _ | (have h9 := hL.get 0 rfl; exact h9) | (have h9 := hL.get 1 rfl; exact h9) | (have h9 := hL.get 2 rfl; exact h9) | (have h9 := hL.get 3 rfl; exact h9)) (by first | exact rd_none _ | (have h9 := hL.get 0 rfl; exact h9) | (have h9 := hL.get 1 rfl; exact h9) | (have h9 := hL.get 2 rfl; exact h9) | (have h9 := hL.get 3 rfl; exact h9)) (by first | exact rd_none _ | (have h9 := hL.get 0 rfl; exact h9) | (have h9 := hL.get 1 rfl; exact h9) | (have h9 := hL.get 2 rfl; exact h9) | (have h9 := hL.get 3 rfl; exact h9)) (by rfl) (by rfl) (by rfl) (by rfl) ?_; intro wz hL hB)
      | (refine wpList_litN4 hL hB (wanted_none rfl) _ _ _ _ rfl rfl rfl rfl rfl (by first | exact rd_none _ | (have h9 := hL.get 0 rfl; exact h9) | (have h9 := hL.get 1 rfl; exact h9) | (have h9 := hL.get 2 rfl; exact h9) | (have h9 := hL.get 3 rfl; exact h9)) (by first | exact rd_none _ | (have h9 := hL.get 0 rfl; exact h9) | (have h9 := hL.get 1 rfl; exact h9) | (have h9 := hL.get 2 rfl; exact h9) | (have h9 := hL.get 3 rfl; exact h9)) (by first | exact rd_none _ | (have h9 := hL.get 0 rfl; exact h9) | (have h9 := hL.get 1 rfl; exact h9) | (have h9 := hL.get 2 rfl; exact h9) | (have h9 := hL.get 3 rfl; exact h9)) (by first | exact rd_none _ | (have h9 := hL.get 0 rfl; exact h9) | (have h9 := hL.get 1 rfl; exact h9) | (have h9 := hL.get 2 rfl; exact h9) | (have h9 := hL.get 3 rfl; exact h9)) (by rfl) (by rfl) (by rfl) (by rfl) ?_; (obtain ⟨gN, hgN⟩ : ∃ gN, wz.heap.size = gN := ⟨_, rfl⟩); rw [hgN]; intro wn hL hB)
      | fail)
  refine (list_any _ _ _ _).mono ?_
  rintro e wy ⟨rfl, hwy⟩
  subst hwy
  go_wp2_with (first
      | (refine wpList_lit1 hL hB (wanted_none rfl) _ rfl rfl ?_; intro wz hL hB)
      | (refine wpList_lit2 hL hB (wanted_none rfl) _ _ rfl rfl rfl ?_; intro wz hL hB)
      | (refine wpList_litW1 hL hB (wanted_none rfl) _ rfl rfl (by first | exact rd_none _ | (have h9 := hL.get 0 rfl; exact h9) | (have h9 := hL.get 1 rfl; exact h9) | (have h9 := hL.get 2 rfl; exact h9) | (have h9 := hL.get 3 rfl; exact h9)) (by rfl) ?_; intro wz hL hB)
      | (refine wpList_litW2 hL hB (wanted_none rfl) _ _ rfl rfl rfl (by first | exact rd_none _ | (have h9 := hL.get 0 rfl; exact h9) | (have h9 := hL.get 1 rfl; exact h9) | (have h9 := hL.get 2 rfl; exact h9) | (have h9 := hL.get 3 rfl; exact h9)) (by first | exact rd_none _ | (have h9 := hL.get 0 rfl; exact h9) | (have h9 := hL.get 1 rfl; exact h9) | (have h9 := hL.get 2 rfl; exact h9) | (have h9 := hL.get 3 rfl; exact h9)) (by rfl) (by rfl) ?_; intro wz hL hB)
      | (refine wpList_litW3 hL hB (wanted_none rfl) _ _ _ rfl rfl rfl rfl (by first | exact rd_none _ | (have h9 := hL.get 0 rfl; exact h9) | (have h9 := hL.get 1 rfl; exact h9) | (have h9 := hL.get 2 rfl; exact h9) | (have h9 := hL.get 3 rfl; exact h9)) (by first | exact rd_none _ | (have h9 := hL.get 0 rfl; exact h9) | (have h9 := hL.get 1 rfl; exact h9) | (have h9 := hL.get 2 rfl; exact h9) | (have h9 := hL.get 3 rfl; exact h9)) (by first | exact rd_none _ | (have h9 := hL.get 0 rfl; exact h9) | (have h9 := hL.get 1 rfl; exact h9) | (have h9 := hL.get 2 rfl; exact h9) | (have h9 := hL.get 3 rfl; exact h9)) (by rfl) (by rfl) (by rfl) ?_; intro wz hL hB)
      | (refine wpList_litW4 hL hB (wanted_none rfl) _ _ _ _ rfl rfl rfl rfl rfl (by first | exact rd_none _ | (have h9 := hL.get 0 rfl; exact h9) | (have h9 := hL.get 1 rfl; exact h9) | (have h9 := hL.get 2 rfl; exact h9) | (have h9 := hL.get 3 rfl; exact h9)) (by first | exact rd_none _ | (have h9 := hL.get 0 rfl; exact h9) | (have h9 := hL.get 1 rfl; exact h9) | (have h9 := hL.get 2 rfl; exact h9) | (have h9 := hL.get 3 rfl; exact h9)) (by first | exact rd_none _ | (have h9 := hL.get 0 rfl; exact h9) | (have h9 := hL.get 1 rfl; exact h9) | (have h9 := hL.get 2 rfl; exact h9) | (have h9 := hL.get 3 rfl; exact h9)) (by first | exact rd_none _ | (have h9 := hL.get 0 rfl; exact h9) | (have h9 := hL.get 1 rfl; exact h9) | (have h9 := hL.get 2 rfl; exact h9) | (have h9 := hL.get 3 rfl; exact h9)) (by rfl) (by rfl) (by rfl) (by rfl) ?_; intro wz hL hB)
      | (refine wpList_litN4 hL hB (wanted_none rfl) _ _ _ _ rfl rfl rfl rfl rfl (by first | exact rd_none _ | (have h9 := hL.get 0 rfl; exact h9) | (have h9 := hL.get 1 rfl; exact h9) | (have h9 := hL.get 2 rfl; exact h9) | (have h9 := hL.get 3 rfl; exact h9)) (by first | exact rd_none _ | (have h9 := hL.get 0 rfl; exact h9) | (have h9 := hL.get 1 rfl; exact h9) | (have h9 := hL.get 2 rfl; exact h9) | (have h9 := hL.get 3 rfl; exact h9)) (by first | exact rd_none _ | (have h9 := hL.get 0 rfl; exact h9) | (have h9 := hL.get 1 rfl; exact h9) | (have h9 := hL.get 2 rfl; exact h9) | (have h9 := hL.get 3 rfl; exact h9)) (by first | exact rd_none _ | (have h9 := hL.get 0 rfl; exact h9) | (have h9 := hL.get 1 rfl; exact h9) | (have h9 := hL.get 2 rfl; exact h9) | (have h9 := hL.get 3 rfl; exact h9)) (by rfl) (by rfl) (by rfl) (by rfl) ?_; (obtain ⟨gN, hgN⟩ : ∃ gN, wz.heap.size = gN := ⟨_, rfl⟩); rw [hgN]; intro wn hL hB)
      | fail)
  refine (tl_reduce _ _ _ _ (hL.get 0 rfl) rfl).mono ?_
  rintro e w1 ⟨Ab, q1, rfl, hq1, hx1, hb1⟩
  rw [okL_ok] at hq1 hx1
  obtain rfl : q1 = 2 := hq1
  have hL := (hL.next hb1).put (P := kRdX Ab [[0], [1, 0]]) hx1
  have hB := below_next hB hb1
  clear hx1 hb1
  go_wp2_with (first
      | (refine wpList_lit1 hL hB (wanted_none rfl) _ rfl rfl ?_; intro wz hL hB)
      | (refine wpList_lit2 hL hB (wanted_none rfl) _ _ rfl rfl rfl ?_; intro wz hL hB)
      | (refine wpList_litW1 hL hB (wanted_none rfl) _ rfl rfl (by first | exact rd_none _ | (have h9 := hL.get 0 rfl; exact h9) | (have h9 := hL.get 1 rfl; exact h9) | (have h9 := hL.get 2 rfl; exact h9) | (have h9 := hL.get 3 rfl; exact h9)) (by rfl) ?_; intro wz hL hB)
      | (refine wpList_litW2 hL hB (wanted_none rfl) _ _ rfl rfl rfl (by first | exact rd_none _ | (have h9 := hL.get 0 rfl; exact h9) | (have h9 := hL.get 1 rfl; exact h9) | (have h9 := hL.get 2 rfl; exact h9) | (have h9 := hL.get 3 rfl; exact h9)) (by first | exact rd_none _ | (have h9 := hL.get 0 rfl; exact h9) | (have h9 := hL.get 1 rfl; exact h9) | (have h9 := hL.get 2 rfl; exact h9) | (have h9 := hL.get 3 rfl; exact h9)) (by rfl) (by rfl) ?_; intro wz hL hB)
      | (refine wpList_litW3 hL hB (wanted_none rfl) _ _ _ rfl rfl rfl rfl (by first | exact rd_none _ | (have h9 := hL.get 0 rfl; exact h9) | (have h9 := hL.get 1 rfl; exact h9) | (have h9 := hL.get 2 rfl; exact h9) | (have h9 := hL.get 3 rfl; exact h9)) (by first | exact rd_none _ | (have h9 := hL.get 0 rfl; exact h9) | (have h9 := hL.get 1 rfl; exact h9) | (have h9 := hL.get 2 rfl; exact h9) | (have h9 := hL.get 3 rfl; exact h9)) (by first | exact rd_none _ | (have h9 := hL.get 0 rfl; exact h9) | (have h9 := hL.get 1 rfl; exact h9) | (have h9 := hL.get 2 rfl; exact h9) | (have h9 := hL.get 3 rfl; exact h9)) (by rfl) (by rfl) (by rfl) ?_; intro wz hL hB)
      | (refine wpList_litW4 hL hB (wanted_none rfl) _ _ _ _ rfl rfl rfl rfl rfl (by first | exact rd_none _ | (have h9 := hL.get 0 rfl; exact h9) | (have h9 := hL.get 1 rfl; exact h9) | (have h9 := hL.get 2 rfl; exact h9) | (have h9 := hL.get 3 rfl; exact h9)) (by first | exact rd_none _ | (have h9 := hL.get 0 rfl; exact h9) | (have h9 := hL.get 1 rfl; exact h9) | (have h9 := hL.get 2 rfl; exact h9) | (have h9 := hL.get 3 rfl; exact h9)) (by first | exact rd_none _ | (have h9 := hL.get 0 rfl; exact h9) | (have h9 := hL.get 1 rfl; exact h9) | (have h9 := hL.get 2 rfl; exact h9) | (have h9 := hL.get 3 rfl; exact h9)) (by first | exact rd_none _ | (have h9 := hL.get 0 rfl; exact h9) | (have h9 := hL.get 1 rfl; exact h9) | (have h9 := hL.get 2 rfl; exact h9) | (have h9 := hL.get 3 rfl; exact h9)) (by rfl) (by rfl) (by rfl) (by rfl) ?_; intro wz hL hB)
      | (refine wpList_litN4 hL hB (wanted_none rfl) _ _ _ _ rfl rfl rfl rfl rfl (by first | exact rd_none _ | (have h9 := hL.get 0 rfl; exact h9) | (have h9 := hL.get 1 rfl; exact h9) | (have h9 := hL.get 2 rfl; exact h9) | (have h9 := hL.get 3 rfl; exact h9)) (by first | exact rd_none _ | (have h9 := hL.get 0 rfl; exact h9) | (have h9 := hL.get 1 rfl; exact h9) | (have h9 := hL.get 2 rfl; exact h9) | (have h9 := hL.get 3 rfl; exact h9)) (by first | exact rd_none _ | (have h9 := hL.get 0 rfl; exact h9) | (have h9 := hL.get 1 rfl; exact h9) | (have h9 := hL.get 2 rfl; exact h9) | (have h9 := hL.get 3 rfl; exact h9)) (by first | exact rd_none _ | (have h9 := hL.get 0 rfl; exact h9) | (have h9 := hL.get 1 rfl; exact h9) | (have h9 := hL.get 2 rfl; exact h9) | (have h9 := hL.get 3 rfl; exact h9)) (by rfl) (by rfl) (by rfl) (by rfl) ?_; (obtain ⟨gN, hgN⟩ : ∃ gN, wz.heap.size = gN := ⟨_, rfl⟩); rw [hgN]; intro wn hL hB)
      | fail)
  refine (list_any _ _ _ _).mono ?_
  rintro e wy ⟨rfl, hwy⟩
  subst hwy
  go_wp2_with (first
      | (refine wpList_lit1 hL hB (wanted_none rfl) _ rfl rfl ?_; intro wz hL hB)
      | (refine wpList_lit2 hL hB (wanted_none rfl) _ _ rfl rfl rfl ?_; intro wz hL hB)
      | (refine wpList_litW1 hL hB (wanted_none rfl) _ rfl rfl (by first | exact rd_none _ | (have h9 := hL.get 0 rfl; exact h9) | (have h9 := hL.get 1 rfl; exact h9) | (have h9 := hL.get 2 rfl; exact h9) | (have h9 := hL.get 3 rfl; exact h9)) (by rfl) ?_; intro wz hL hB)
      | (refine wpList_litW2 hL hB (wanted_none rfl) _ _ rfl rfl rfl (by first | exact rd_none _ | (have h9 := hL.get 0 rfl; exact h9) | (have h9 := hL.get 1 rfl; exact h9) | (have h9 := hL.get 2 rfl; exact h9) | (have h9 := hL.get 3 rfl; exact h9)) (by first | exact rd_none _ | (have h9 := hL.get 0 rfl; exact h9) | (have h9 := hL.get 1 rfl; exact h9) | (have h9 := hL.get 2 rfl; exact h9) | (have h9 := hL.get 3 rfl; exact h9)) (by rfl) (by rfl) ?_; intro wz hL hB)
      | (refine wpList_litW3 hL hB (wanted_none rfl) _ _ _ rfl rfl rfl rfl (by first | exact rd_none _ | (have h9 := hL.get 0 rfl; exact h9) | (have h9 := hL.get 1 rfl; exact h9) | (have h9 := hL.get 2 rfl; exact h9) | (have h9 := hL.get 3 rfl; exact h9)) (by first | exact rd_none _ | (have h9 := hL.get 0 rfl; exact h9) | (have h9 := hL.get 1 rfl; exact h9) | (have h9 := hL.get 2 rfl; exact h9) | (have h9 := hL.get 3 rfl; exact h9)) (by first | exact rd_none _ | (have h9 := hL.get 0 rfl; exact h9) | (have h9 := hL.get 1 rfl; exact h9) | (have h9 := hL.get 2 rfl; exact h9) | (have h9 := hL.get 3 rfl; exact h9)) (by rfl) (by rfl) (by rfl) ?_; intro wz hL hB)
      | (refine wpList_litW4 hL hB (wanted_none rfl) _ _ _ _ rfl rfl rfl rfl rfl (by first | exact rd_none _ | (have h9 := hL.get 0 rfl; exact h9) | (have h9 := hL.get 1 rfl; exact h9) | (have h9 := hL.get 2 rfl; exact h9) | (have h9 := hL.get 3 rfl; exact h9)) (by first | exact rd_none _ | (have h9 := hL.get 0 rfl; exact h9) | (have h9 := hL.get 1 rfl; exact h9) | (have h9 := hL.get 2 rfl; exact h9) | (have h9 := hL.get 3 rfl; exact h9)) (by first | exact rd_none _ | (have h9 := hL.get 0 rfl; exact h9) | (have h9 := hL.get 1 rfl; exact h9) | (have h9 := hL.get 2 rfl; exact h9) | (have h9 := hL.get 3 rfl; exact h9)) (by first | exact rd_none _ | (have h9 := hL.get 0 rfl; exact h9) | (have h9 := hL.get 1 rfl; exact h9) | (have h9 := hL.get 2 rfl; exact h9) | (have h9 := hL.get 3 rfl; exact h9)) (by rfl) (by rfl) (by rfl) (by rfl) ?_; intro wz hL hB)
      | (refine wpList_litN4 hL hB (wanted_none rfl) _ _ _ _ rfl rfl rfl rfl rfl (by first | exact rd_none _ | (have h9 := hL.get 0 rfl; exact h9) | (have h9 := hL.get 1 rfl; exact h9) | (have h9 := hL.get 2 rfl; exact h9) | (have h9 := hL.get 3 rfl; exact h9)) (by first | exact rd_none _ | (have h9 := hL.get 0 rfl; exact h9) | (have h9 := hL.get 1 rfl; exact h9) | (have h9 := hL.get 2 rfl; exact h9) | (have h9 := hL.get 3 rfl; exact h9)) (by first | exact rd_none _ | (have h9 := hL.get 0 rfl; exact h9) | (have h9 := hL.get 1 rfl; exact h9) | (have h9 := hL.get 2 rfl; exact h9) | (have h9 := hL.get 3 rfl; exact h9)) (by first | exact rd_none _ | (have h9 := hL.get 0 rfl; exact h9) | (have h9 := hL.get 1 rfl; exact h9) | (have h9 := hL.get 2 rfl; exact h9) | (have h9 := hL.get 3 rfl; exact h9)) (by rfl) (by rfl) (by rfl) (by rfl) ?_; (obtain ⟨gN, hgN⟩ : ∃ gN, wz.heap.size = gN := ⟨_, rfl⟩); rw [hgN]; intro wn hL hB)
      | fail)
  refine (tpre_any _ _ _ [[1, 0]] [[], [1], [1, 0]] 2 _ (hL.get 0 rfl) rfl (by decide) tl_a3 (fun x => (mem_both (by decide) (by decide) x).trans mem_pre.symm) 0 (gE_zero (M.chE_zero.2 tl_v3) tl_w3)).mono ?_
  rintro e w1 ⟨Ac, q1, rfl, hq1, hx1, hb1⟩
  rw [okL_ok] at hq1 hx1
  obtain rfl : q1 = 3 := hq1
  have hL := (hL.next hb1).put (P := kRdX Ac [[], [1], [1, 0]]) hx1
  have hB := below_next hB hb1
  clear hx1 hb1
  go_wp2_with (first
      | (refine wpList_lit1 hL hB (wanted_none rfl) _ rfl rfl ?_; intro wz hL hB)
      | (refine wpList_lit2 hL hB (wanted_none rfl) _ _ rfl rfl rfl ?_; intro wz hL hB)
      | (refine wpList_litW1 hL hB (wanted_none rfl) _ rfl rfl (by first | exact rd_none _ | (have h9 := hL.get 0 rfl; exact h9) | (have h9 := hL.get 1 rfl; exact h9) | (have h9 := hL.get 2 rfl; exact h9) | (have h9 := hL.get 3 rfl; exact h9)) (by rfl) ?_; intro wz hL hB)
      | (refine wpList_litW2 hL hB (wanted_none rfl) _ _ rfl rfl rfl (by first | exact rd_none _ | (have h9 := hL.get 0 rfl; exact h9) | (have h9 := hL.get 1 rfl; exact h9) | (have h9 := hL.get 2 rfl; exact h9) | (have h9 := hL.get 3 rfl; exact h9)) (by first | exact rd_none _ | (have h9 := hL.get 0 rfl; exact h9) | (have h9 := hL.get 1 rfl; exact h9) | (have h9 := hL.get 2 rfl; exact h9) | (have h9 := hL.get 3 rfl; exact h9)) (by rfl) (by rfl) ?_; intro wz hL hB)
      | (refine wpList_litW3 hL hB (wanted_none rfl) _ _ _ rfl rfl rfl rfl (by first | exact rd_none _ | (have h9 := hL.get 0 rfl; exact h9) | (have h9 := hL.get 1 rfl; exact h9) | (have h9 := hL.get 2 rfl; exact h9) | (have h9 := hL.get 3 rfl; exact h9)) (by first | exact rd_none _ | (have h9 := hL.get 0 rfl; exact h9) | (have h9 := hL.get 1 rfl; exact h9) | (have h9 := hL.get 2 rfl; exact h9) | (have h9 := hL.get 3 rfl; exact h9)) (by first | exact rd_none _ | (have h9 := hL.get 0 rfl; exact h9) | (have h9 := hL.get 1 rfl; exact h9) | (have h9 := hL.get 2 rfl; exact h9) | (have h9 := hL.get 3 rfl; exact h9)) (by rfl) (by rfl) (by rfl) ?_; intro wz hL hB)
      | (refine wpList_litW4 hL hB (wanted_none rfl) _ _ _ _ rfl rfl rfl rfl rfl (by first | exact rd_none _ | (have h9 := hL.get 0 rfl; exact h9) | (have h9 := hL.get 1 rfl; exact h9) | (have h9 := hL.get 2 rfl; exact h9) | (have h9 := hL.get 3 rfl; exact h9)) (by first | exact rd_none _ | (have h9 := hL.get 0 rfl; exact h9) | (have h9 := hL.get 1 rfl; exact h9) | (have h9 := hL.get 2 rfl; exact h9) | (have h9 := hL.get 3 rfl; exact h9)) (by first | exact rd_none _ | (have h9 := hL.get 0 rfl; exact h9) | (have h9 := hL.get 1 rfl; exact h9) | (have h9 := hL.get 2 rfl; exact h9) | (have h9 := hL.get 3 rfl; exact h9)) (by first | exact rd_none _ | (have h9 := hL.get 0 rfl; exact h9) | (have h9 := hL.get 1 rfl; exact h9) | (have h9 := hL.get 2 rfl; exact h9) | (have h9 := hL.get 3 rfl; exact h9)) (by rfl) (by rfl) (by rfl) (by rfl) ?_; intro wz hL hB)
      | (refine wpList_litN4 hL hB (wanted_none rfl) _ _ _ _ rfl rfl rfl rfl rfl (by first | exact rd_none _ | (have h9 := hL.get 0 rfl; exact h9) | (have h9 := hL.get 1 rfl; exact h9) | (have h9 := hL.get 2 rfl; exact h9) | (have h9 := hL.get 3 rfl; exact h9)) (by first | exact rd_none _ | (have h9 := hL.get 0 rfl; exact h9) | (have h9 := hL.get 1 rfl; exact h9) | (have h9 := hL.get 2 rfl; exact h9) | (have h9 := hL.get 3 rfl; exact h9)) (by first | exact rd_none _ | (have h9 := hL.get 0 rfl; exact h9) | (have h9 := hL.get 1 rfl; exact h9) | (have h9 := hL.get 2 rfl; exact h9) | (have h9 := hL.get 3 rfl; exact h9)) (by first | exact rd_none _ | (have h9 := hL.get 0 rfl; exact h9) | (have h9 := hL.get 1 rfl; exact h9) | (have h9 := hL.get 2 rfl; exact h9) | (have h9 := hL.get 3 rfl; exact h9)) (by rfl) (by rfl) (by rfl) (by rfl) ?_; (obtain ⟨gN, hgN⟩ : ∃ gN, wz.heap.size = gN := ⟨_, rfl⟩); rw [hgN]; intro wn hL hB)
      | fail)
  refine (list_any _ _ _ _).mono ?_
  rintro e wy ⟨rfl, hwy⟩
  subst hwy
  go_wp2_with (first
      | (refine wpList_lit1 hL hB (wanted_none rfl) _ rfl rfl ?_; intro wz hL hB)
      | (refine wpList_lit2 hL hB (wanted_none rfl) _ _ rfl rfl rfl ?_; intro wz hL hB)
      | (refine wpList_litW1 hL hB (wanted_none rfl) _ rfl rfl (by first | exact rd_none _ | (have h9 := hL.get 0 rfl; exact h9) | (have h9 := hL.get 1 rfl; exact h9) | (have h9 := hL.get 2 rfl; exact h9) | (have h9 := hL.get 3 rfl; exact h9)) (by rfl) ?_; intro wz hL hB)
      | (refine wpList_litW2 hL hB (wanted_none rfl) _ _ rfl rfl rfl (by first | exact rd_none _ | (have h9 := hL.get 0 rfl; exact h9) | (have h9 := hL.get 1 rfl; exact h9) | (have h9 := hL.get 2 rfl; exact h9) | (have h9 := hL.get 3 rfl; exact h9)) (by first | exact rd_none _ | (have h9 := hL.get 0 rfl; exact h9) | (have h9 := hL.get 1 rfl; exact h9) | (have h9 := hL.get 2 rfl; exact h9) | (have h9 := hL.get 3 rfl; exact h9)) (by rfl) (by rfl) ?_; intro wz hL hB)
      | (refine wpList_litW3 hL hB (wanted_none rfl) _ _ _ rfl rfl rfl rfl (by first | exact rd_none _ | (have h9 := hL.get 0 rfl; exact h9) | (have h9 := hL.get 1 rfl; exact h9) | (have h9 := hL.get 2 rfl; exact h9) | (have h9 := hL.get 3 rfl; exact h9)) (by first | exact rd_none _ | (have h9 := hL.get 0 rfl; exact h9) | (have h9 := hL.get 1 rfl; exact h9) | (have h9 := hL.get 2 rfl; exact h9) | (have h9 := hL.get 3 rfl; exact h9)) (by first | exact rd_none _ | (have h9 := hL.get 0 rfl; exact h9) | (have h9 := hL.get 1 rfl; exact h9) | (have h9 := hL.get 2 rfl; exact h9) | (have h9 := hL.get 3 rfl; exact h9)) (by rfl) (by rfl) (by rfl) ?_; intro wz hL hB)
      | (refine wpList_litW4 hL hB (wanted_none rfl) _ _ _ _ rfl rfl rfl rfl rfl (by first | exact rd_none _ | (have h9 := hL.get 0 rfl; exact h9) | (have h9 := hL.get 1 rfl; exact h9) | (have h9 := hL.get 2 rfl; exact h9) | (have h9 := hL.get 3 rfl; exact h9)) (by first | exact rd_none _ | (have h9 := hL.get 0 rfl; exact h9) | (have h9 := hL.get 1 rfl; exact h9) | (have h9 := hL.get 2 rfl; exact h9) | (have h9 := hL.get 3 rfl; exact h9)) (by first | exact rd_none _ | (have h9 := hL.get 0 rfl; exact h9) | (have h9 := hL.get 1 rfl; exact h9) | (have h9 := hL.get 2 rfl; exact h9) | (have h9 := hL.get 3 rfl; exact h9)) (by first | exact rd_none _ | (have h9 := hL.get 0 rfl; exact h9) | (have h9 := hL.get 1 rfl; exact h9) | (have h9 := hL.get 2 rfl; exact h9) | (have h9 := hL.get 3 rfl; exact h9)) (by rfl) (by rfl) (by rfl) (by rfl) ?_; intro wz hL hB)
      | (refine wpList_litN4 hL hB (wanted_none rfl) _ _ _ _ rfl rfl rfl rfl rfl (by first | exact rd_none _ | (have h9 := hL.get 0 rfl; exact h9) | (have h9 := hL.get 1 rfl; exact h9) | (have h9 := hL.get 2 rfl; exact h9) | (have h9 := hL.get 3 rfl; exact h9)) (by first | exact rd_none _ | (have h9 := hL.get 0 rfl; exact h9) | (have h9 := hL.get 1 rfl; exact h9) | (have h9 := hL.get 2 rfl; exact h9) | (have h9 := hL.get 3 rfl; exact h9)) (by first | exact rd_none _ | (have h9 := hL.get 0 rfl; exact h9) | (have h9 := hL.get 1 rfl; exact h9) | (have h9 := hL.get 2 rfl; exact h9) | (have h9 := hL.get 3 rfl; exact h9)) (by first | exact rd_none _ | (have h9 := hL.get 0 rfl; exact h9) | (have h9 := hL.get 1 rfl; exact h9) | (have h9 := hL.get 2 rfl; exact h9) | (have h9 := hL.get 3 rfl; exact h9)) (by rfl) (by rfl) (by rfl) (by rfl) ?_; (obtain ⟨gN, hgN⟩ : ∃ gN, wz.heap.size = gN := ⟨_, rfl⟩); rw [hgN]; intro wn hL hB)
      | fail)
  refine (list_any _ _ _ _).mono ?_
  rintro e wy ⟨rfl, hwy⟩
  subst hwy
  go_wp2_with (first
      | (refine wpList_lit1 hL hB (wanted_none rfl) _ rfl rfl ?_; intro wz hL hB)
      | (refine wpList_lit2 hL hB (wanted_none rfl) _ _ rfl rfl rfl ?_; intro wz hL hB)
      | (refine wpList_litW1 hL hB (wanted_none rfl) _ rfl rfl (by first | exact rd_none _ | (have h9 := hL.get 0 rfl; exact h9) | (have h9 := hL.get 1 rfl; exact h9) | (have h9 := hL.get 2 rfl; exact h9) | (have h9 := hL.get 3 rfl; exact h9)) (by rfl) ?_; intro wz hL hB)
      | (refine wpList_litW2 hL hB (wanted_none rfl) _ _ rfl rfl rfl (by first | exact rd_none _ | (have h9 := hL.get 0 rfl; exact h9) | (have h9 := hL.get 1 rfl; exact h9) | (have h9 := hL.get 2 rfl; exact h9) | (have h9 := hL.get 3 rfl; exact h9)) (by first | exact rd_none _ | (have h9 := hL.get 0 rfl; exact h9) | (have h9 := hL.get 1 rfl; exact h9) | (have h9 := hL.get 2 rfl; exact h9) | (have h9 := hL.get 3 rfl; exact h9)) (by rfl) (by rfl) ?_; intro wz hL hB)
      | (refine wpList_litW3 hL hB (wanted_none rfl) _ _ _ rfl rfl rfl rfl (by first | exact rd_none _ | (have h9 := hL.get 0 rfl; exact h9) | (have h9 := hL.get 1 rfl; exact h9) | (have h9 := hL.get 2 rfl; exact h9) | (have h9 := hL.get 3 rfl; exact h9)) (by first | exact rd_none _ | (have h9 := hL.get 0 rfl; exact h9) | (have h9 := hL.get 1 rfl; exact h9) | (have h9 := hL.get 2 rfl; exact h9) | (have h9 := hL.get 3 rfl; exact h9)) (by first | exact rd_none _ | (have h9 := hL.get 0 rfl; exact h9) | (have h9 := hL.get 1 rfl; exact h9) | (have h9 := hL.get 2 rfl; exact h9) | (have h9 := hL.get 3 rfl; exact h9)) (by rfl) (by rfl) (by rfl) ?_; intro wz hL hB)
      | (refine wpList_litW4 hL hB (wanted_none rfl) _ _ _ _ rfl rfl rfl rfl rfl (by first | exact rd_none _ | (have h9 := hL.get 0 rfl; exact h9) | (have h9 := hL.get 1 rfl; exact h9) | (have h9 := hL.get 2 rfl; exact h9) | (have h9 := hL.get 3 rfl; exact h9)) (by first | exact rd_none _ | (have h9 := hL.get 0 rfl; exact h9) | (have h9 := hL.get 1 rfl; exact h9) | (have h9 := hL.get 2 rfl; exact h9) | (have h9 := hL.get 3 rfl; exact h9)) (by first | exact rd_none _ | (have h9 := hL.get 0 rfl; exact h9) | (have h9 := hL.get 1 rfl; exact h9) | (have h9 := hL.get 2 rfl; exact h9) | (have h9 := hL.get 3 rfl; exact h9)) (by first | exact rd_none _ | (have h9 := hL.get 0 rfl; exact h9) | (have h9 := hL.get 1 rfl; exact h9) | (have h9 := hL.get 2 rfl; exact h9) | (have h9 := hL.get 3 rfl; exact h9)) (by rfl) (by rfl) (by rfl) (by rfl) ?_; intro wz hL hB)
      | (refine wpList_litN4 hL hB (wanted_none rfl) _ _ _ _ rfl rfl rfl rfl rfl (by first | exact rd_none _ | (have h9 := hL.get 0 rfl; exact h9) | (have h9 := hL.get 1 rfl; exact h9) | (have h9 := hL.get 2 rfl; exact h9) | (have h9 := hL.get 3 rfl; exact h9)) (by first | exact rd_none _ | (have h9 := hL.get 0 rfl; exact h9) | (have h9 := hL.get 1 rfl; exact h9) | (have h9 := hL.get 2 rfl; exact h9) | (have h9 := hL.get 3 rfl; exact h9)) (by first | exact rd_none _ | (have h9 := hL.get 0 rfl; exact h9) | (have h9 := hL.get 1 rfl; exact h9) | (have h9 := hL.get 2 rfl; exact h9) | (have h9 := hL.get 3 rfl; exact h9)) (by first | exact rd_none _ | (have h9 := hL.get 0 rfl; exact h9) | (have h9 := hL.get 1 rfl; exact h9) | (have h9 := hL.get 2 rfl; exact h9) | (have h9 := hL.get 3 rfl; exact h9)) (by rfl) (by rfl) (by rfl) (by rfl) ?_; (obtain ⟨gN, hgN⟩ : ∃ gN, wz.heap.size = gN := ⟨_, rfl⟩); rw [hgN]; intro wn hL hB)
      | fail)
  refine (tl_concat _ _ _ _ _ _ _ (hL.get 3 rfl) (hL.get 0 rfl) rfl rfl).mono ?_
  rintro e w1 ⟨Ad, q1, rfl, hq1, hx1, hb1⟩
  rw [okL_ok] at hq1 hx1
  obtain rfl : q1 = 4 := hq1
  have hL := (hL.next hb1).put (P := kRdX Ad [[0], [1], [0, 0], [0, 1]]) hx1
  have hB := below_next hB hb1
  clear hx1 hb1
  go_wp2_with fail
  refine (list_any _ _ _ _).mono ?_
  rintro e wy ⟨rfl, hwy⟩
  have hcx := ch_rds w1 [some [0], some [1], some [1, 0]]
  have hL := (hL.next hcx.2).put (P := kRdS _ _) hcx.1
  have hB := below_next hB hcx.2
  have hwy2 : wy = _ := hwy
  have hwy3 : (chW w1 [some [0], some [1], some [1, 0]]).alloc (.cells (chV w1.heap.size [some [0], some [1], some [1, 0]]).toArray 23) = wy := hwy.symm
  rw [hwy3] at hL hB
  clear hcx hwy hwy2 hwy3
  go_wp2_with fail
  refine (same_yes Aa _ 3 3 [[0], [1], [1, 0]] _ (hL.get 15 rfl) (hL.get 0 rfl) rfl (by decide) (by unfold Wl; decide)).mono ?_
  rintro e w1 ⟨rfl, hb1⟩
  have hL := hL.next hb1
  have hB := below_next hB hb1
  clear hb1
  go_wp2_with fail
  refine (list_any _ _ _ _).mono ?_
  rintro e wy ⟨rfl, hwy⟩
  have hcx := ch_rds w1 [some [0], some [1, 0]]
  have hL := (hL.next hcx.2).put (P := kRdS _ _) hcx.1
  have hB := below_next hB hcx.2
  have hwy2 : wy = _ := hwy
  have hwy3 : (chW w1 [some [0], some [1, 0]]).alloc (.cells (chV w1.heap.size [some [0], some [1, 0]]).toArray 23) = wy := hwy.symm
  rw [hwy3] at hL hB
  clear hcx hwy hwy2 hwy3
  go_wp2_with fail
  refine (same_yes Ab _ 2 2 [[0], [1, 0]] _ (hL.get 11 rfl) (hL.get 0 rfl) rfl (by decide) (by unfold Wl; decide)).mono ?_
  rintro e w1 ⟨rfl, hb1⟩
  have hL := hL.next hb1
  have hB := below_next hB hb1
  clear hb1
  go_wp2_with fail
  refine (list_any _ _ _ _).mono ?_
  rintro e wy ⟨rfl, hwy⟩
  have hcx := ch_rds w1 [none, some [1], some [1, 0]]
  have hL := (hL.next hcx.2).put (P := kRdS _ _) hcx.1
  have hB := below_next hB hcx.2
  have hwy2 : wy = _ := hwy
  have hwy3 : (chW w1 [none, some [1], some [1, 0]]).alloc (.cells (chV w1.heap.size [none, some [1], some [1, 0]]).toArray 23) = wy := hwy.symm
  rw [hwy3] at hL hB
  clear hcx hwy hwy2 hwy3
  go_wp2_with fail
  refine (same_yes Ac _ 3 3 [[], [1], [1, 0]] _ (hL.get 9 rfl) (hL.get 0 rfl) rfl (by decide) (by unfold Wl; decide)).mono ?_
  rintro e w1 ⟨rfl, hb1⟩
  have hL := hL.next hb1
  have hB := below_next hB hb1
  clear hb1
  go_wp2_with fail
  refine (list_any _ _ _ _).mono ?_
  rintro e wy ⟨rfl, hwy⟩
  have hcx := ch_rds w1 [some [0], some [1], some [0, 0], some [0, 1]]
  have hL := (hL.next hcx.2).put (P := kRdS _ _) hcx.1
  have hB := below_next hB hcx.2
  have hwy2 : wy = _ := hwy
  have hwy3 : (chW w1 [some [0], some [1], some [0, 0], some [0, 1]]).alloc (.cells (chV w1.heap.size [some [0], some [1], some [0, 0], some [0, 1]]).toArray 23) = wy := hwy.symm
  rw [hwy3] at hL hB
  clear hcx hwy hwy2 hwy3
  go_wp2_with fail
  refine (same_yes Ad _ 4 4 [[0], [1], [0, 0], [0, 1]] _ (hL.get 4 rfl) (hL.get 0 rfl) rfl (by decide) (by unfold Wl; decide)).mono ?_
  rintro e w1 ⟨rfl, hb1⟩
  have hL := hL.next hb1
  have hB := below_next hB hb1
  clear hb1
  go_wp2_with (first
      | (refine wpList_lit1 hL hB (wanted_none rfl) _ rfl rfl ?_; intro wz hL hB)
      | (refine wpList_lit2 hL hB (wanted_none rfl) _ _ rfl rfl rfl ?_; intro wz hL hB)
      | (refine wpList_litW1 hL hB (wanted_none rfl) _ rfl rfl (by first | exact rd_none _ | (have h9 := hL.get 0 rfl; exact h9) | (have h9 := hL.get 1 rfl; exact h9) | (have h9 := hL.get 2 rfl; exact h9) | (have h9 := hL.get 3 rfl; exact h9)) (by rfl) ?_; intro wz hL hB)
      | (refine wpList_litW2 hL hB (wanted_none rfl) _ _ rfl rfl rfl (by first | exact rd_none _ | (have h9 := hL.get 0 rfl; exact h9) | (have h9 := hL.get 1 rfl; exact h9) | (have h9 := hL.get 2 rfl; exact h9) | (have h9 := hL.get 3 rfl; exact h9)) (by first | exact rd_none _ | (have h9 := hL.get 0 rfl; exact h9) | (have h9 := hL.get 1 rfl; exact h9) | (have h9 := hL.get 2 rfl; exact h9) | (have h9 := hL.get 3 rfl; exact h9)) (by rfl) (by rfl) ?_; intro wz hL hB)
      | (refine wpList_litW3 hL hB (wanted_none rfl) _ _ _ rfl rfl rfl rfl (by first | exact rd_none _ | (have h9 := hL.get 0 rfl; exact h9) | (have h9 := hL.get 1 rfl; exact h9) | (have h9 := hL.get 2 rfl; exact h9) | (have h9 := hL.get 3 rfl; exact h9)) (by first | exact rd_none _ | (have h9 := hL.get 0 rfl; exact h9) | (have h9 := hL.get 1 rfl; exact h9) | (have h9 := hL.get 2 rfl; exact h9) | (have h9 := hL.get 3 rfl; exact h9)) (by first | exact rd_none _ | (have h9 := hL.get 0 rfl; exact h9) | (have h9 := hL.get 1 rfl; exact h9) | (have h9 := hL.get 2 rfl; exact h9) | (have h9 := hL.get 3 rfl; exact h9)) (by rfl) (by rfl) (by rfl) ?_; intro wz hL hB)
      | (refine wpList_litW4 hL hB (wanted_none rfl) _ _ _ _ rfl rfl rfl rfl rfl (by first | exact rd_none _ | (have h9 := hL.get 0 rfl; exact h9) | (have h9 := hL.get 1 rfl; exact h9) | (have h9 := hL.get 2 rfl; exact h9) | (have h9 := hL.get 3 rfl; exact h9)) (by first | exact rd_none _ | (have h9 := hL.get 0 rfl; exact h9) | (have h9 := hL.get 1 rfl; exact h9) | (have h9 := hL.get 2 rfl; exact h9) | (have h9 := hL.get 3 rfl; exact h9)) (by first | exact rd_none _ | (have h9 := hL.get 0 rfl; exact h9) | (have h9 := hL.get 1 rfl; exact h9) | (have h9 := hL.get 2 rfl; exact h9) | (have h9 := hL.get 3 rfl; exact h9)) (by first | exact rd_none _ | (have h9 := hL.get 0 rfl; exact h9) | (have h9 := hL.get 1 rfl; exact h9) | (have h9 := hL.get 2 rfl; exact h9) | (have h9 := hL.get 3 rfl; exact h9)) (by rfl) (by rfl) (by rfl) (by rfl) ?_; intro wz hL hB)
      | (refine wpList_litN4 hL hB (wanted_none rfl) _ _ _ _ rfl rfl rfl rfl rfl (by first | exact rd_none _ | (have h9 := hL.get 0 rfl; exact h9) | (have h9 := hL.get 1 rfl; exact h9) | (have h9 := hL.get 2 rfl; exact h9) | (have h9 := hL.get 3 rfl; exact h9)) (by first | exact rd_none _ | (have h9 := hL.get 0 rfl; exact h9) | (have h9 := hL.get 1 rfl; exact h9) | (have h9 := hL.get 2 rfl; exact h9) | (have h9 := hL.get 3 rfl; exact h9)) (by first | exact rd_none _ | (have h9 := hL.get 0 rfl; exact h9) | (have h9 := hL.get 1 rfl; exact h9) | (have h9 := hL.get 2 rfl; exact h9) | (have h9 := hL.get 3 rfl; exact h9)) (by first | exact rd_none _ | (have h9 := hL.get 0 rfl; exact h9) | (have h9 := hL.get 1 rfl; exact h9) | (have h9 := hL.get 2 rfl; exact h9) | (have h9 := hL.get 3 rfl; exact h9)) (by rfl) (by rfl) (by rfl) (by rfl) ?_; (obtain ⟨gN, hgN⟩ : ∃ gN, wz.heap.size = gN := ⟨_, rfl⟩); rw [hgN]; intro wn hL hB)
      | fail)
  refine (upto_any 2 1 [[], [0], [1]] _ tl_a5 tl_m5 0 (tl_b5)).mono ?_
  rintro e w1 ⟨Ae, q1, rfl, hq1, hx1, hb1⟩
  rw [okL_ok] at hq1 hx1
  obtain rfl : q1 = 3 := hq1
  have hL := (hL.next hb1).put (P := kRdX Ae [[], [0], [1]]) hx1
  have hB := below_next hB hb1
  clear hx1 hb1
  go_wp2_with (first
      | (refine wpList_lit1 hL hB (wanted_none rfl) _ rfl rfl ?_; intro wz hL hB)
      | (refine wpList_lit2 hL hB (wanted_none rfl) _ _ rfl rfl rfl ?_; intro wz hL hB)
      | (refine wpList_litW1 hL hB (wanted_none rfl) _ rfl rfl (by first | exact rd_none _ | (have h9 := hL.get 0 rfl; exact h9) | (have h9 := hL.get 1 rfl; exact h9) | (have h9 := hL.get 2 rfl; exact h9) | (have h9 := hL.get 3 rfl; exact h9)) (by rfl) ?_; intro wz hL hB)
      | (refine wpList_litW2 hL hB (wanted_none rfl) _ _ rfl rfl rfl (by first | exact rd_none _ | (have h9 := hL.get 0 rfl; exact h9) | (have h9 := hL.get 1 rfl; exact h9) | (have h9 := hL.get 2 rfl; exact h9) | (have h9 := hL.get 3 rfl; exact h9)) (by first | exact rd_none _ | (have h9 := hL.get 0 rfl; exact h9) | (have h9 := hL.get 1 rfl; exact h9) | (have h9 := hL.get 2 rfl; exact h9) | (have h9 := hL.get 3 rfl; exact h9)) (by rfl) (by rfl) ?_; intro wz hL hB)
      | (refine wpList_litW3 hL hB (wanted_none rfl) _ _ _ rfl rfl rfl rfl (by first | exact rd_none _ | (have h9 := hL.get 0 rfl; exact h9) | (have h9 := hL.get 1 rfl; exact h9) | (have h9 := hL.get 2 rfl; exact h9) | (have h9 := hL.get 3 rfl; exact h9)) (by first | exact rd_none _ | (have h9 := hL.get 0 rfl; exact h9) | (have h9 := hL.get 1 rfl; exact h9) | (have h9 := hL.get 2 rfl; exact h9) | (have h9 := hL.get 3 rfl; exact h9)) (by first | exact rd_none _ | (have h9 := hL.get 0 rfl; exact h9) | (have h9 := hL.get 1 rfl; exact h9) | (have h9 := hL.get 2 rfl; exact h9) | (have h9 := hL.get 3 rfl; exact h9)) (by rfl) (by rfl) (by rfl) ?_; intro wz hL hB)
      | (refine wpList_litW4 hL hB (wanted_none rfl) _ _ _ _ rfl rfl rfl rfl rfl (by first | exact rd_none _ | (have h9 := hL.get 0 rfl; exact h9) | (have h9 := hL.get 1 rfl; exact h9) | (have h9 := hL.get 2 rfl; exact h9) | (have h9 := hL.get 3 rfl; exact h9)) (by first | exact rd_none _ | (have h9 := hL.get 0 rfl; exact h9) | (have h9 := hL.get 1 rfl; exact h9) | (have h9 := hL.get 2 rfl; exact h9) | (have h9 := hL.get 3 rfl; exact h9)) (by first | exact rd_none _ | (have h9 := hL.get 0 rfl; exact h9) | (have h9 := hL.get 1 rfl; exact h9) | (have h9 := hL.get 2 rfl; exact h9) | (have h9 := hL.get 3 rfl; exact h9)) (by first | exact rd_none _ | (have h9 := hL.get 0 rfl; exact h9) | (have h9 := hL.get 1 rfl; exact h9) | (have h9 := hL.get 2 rfl; exact h9) | (have h9 := hL.get 3 rfl; exact h9)) (by rfl) (by rfl) (by rfl) (by rfl) ?_; intro wz hL hB)
      | (refine wpList_litN4 hL hB (wanted_none rfl) _ _ _ _ rfl rfl rfl rfl rfl (by first | exact rd_none _ | (have h9 := hL.get 0 rfl; exact h9) | (have h9 := hL.get 1 rfl; exact h9) | (have h9 := hL.get 2 rfl; exact h9) | (have h9 := hL.get 3 rfl; exact h9)) (by first | exact rd_none _ | (have h9 := hL.get 0 rfl; exact h9) | (have h9 := hL.get 1 rfl; exact h9) | (have h9 := hL.get 2 rfl; exact h9) | (have h9 := hL.get 3 rfl; exact h9)) (by first | exact rd_none _ | (have h9 := hL.get 0 rfl; exact h9) | (have h9 := hL.get 1 rfl; exact h9) | (have h9 := hL.get 2 rfl; exact h9) | (have h9 := hL.get 3 rfl; exact h9)) (by first | exact rd_none _ | (have h9 := hL.get 0 rfl; exact h9) | (have h9 := hL.get 1 rfl; exact h9) | (have h9 := hL.get 2 rfl; exact h9) | (have h9 := hL.get 3 rfl; exact h9)) (by rfl) (by rfl) (by rfl) (by rfl) ?_; (obtain ⟨gN, hgN⟩ : ∃ gN, wz.heap.size = gN := ⟨_, rfl⟩); rw [hgN]; intro wn hL hB)
      | fail)
  refine (exact_any 2 2 [[0, 0], [0, 1], [1, 0], [1, 1]] _ tl_a6 tl_m6 0 (tl_b6)).mono ?_
  rintro e w1 ⟨Af, q1, rfl, hq1, hx1, hb1⟩
  rw [okL_ok] at hq1 hx1
  obtain rfl : q1 = 4 := hq1
  have hL := (hL.next hb1).put (P := kRdX Af [[0, 0], [0, 1], [1, 0], [1, 1]]) hx1
  have hB := below_next hB hb1
  clear hx1 hb1
  go_wp2_with (first
      | (refine wpList_lit1 hL hB (wanted_none rfl) _ rfl rfl ?_; intro wz hL hB)
      | (refine wpList_lit2 hL hB (wanted_none rfl) _ _ rfl rfl rfl ?_; intro wz hL hB)
      | (refine wpList_litW1 hL hB (wanted_none rfl) _ rfl rfl (by first | exact rd_none _ | (have h9 := hL.get 0 rfl; exact h9) | (have h9 := hL.get 1 rfl; exact h9) | (have h9 := hL.get 2 rfl; exact h9) | (have h9 := hL.get 3 rfl; exact h9)) (by rfl) ?_; intro wz hL hB)
      | (refine wpList_litW2 hL hB (wanted_none rfl) _ _ rfl rfl rfl (by first | exact rd_none _ | (have h9 := hL.get 0 rfl; exact h9) | (have h9 := hL.get 1 rfl; exact h9) | (have h9 := hL.get 2 rfl; exact h9) | (have h9 := hL.get 3 rfl; exact h9)) (by first | exact rd_none _ | (have h9 := hL.get 0 rfl; exact h9) | (have h9 := hL.get 1 rfl; exact h9) | (have h9 := hL.get 2 rfl; exact h9) | (have h9 := hL.get 3 rfl; exact h9)) (by rfl) (by rfl) ?_; intro wz hL hB)
      | (refine wpList_litW3 hL hB (wanted_none rfl) _ _ _ rfl rfl rfl rfl (by first | exact rd_none _ | (have h9 := hL.get 0 rfl; exact h9) | (have h9 := hL.get 1 rfl; exact h9) | (have h9 := hL.get 2 rfl; exact h9) | (have h9 := hL.get 3 rfl; exact h9)) (by first | exact rd_none _ | (have h9 := hL.get 0 rfl; exact h9) | (have h9 := hL.get 1 rfl; exact h9) | (have h9 := hL.get 2 rfl; exact h9) | (have h9 := hL.get 3 rfl; exact h9)) (by first | exact rd_none _ | (have h9 := hL.get 0 rfl; exact h9) | (have h9 := hL.get 1 rfl; exact h9) | (have h9 := hL.get 2 rfl; exact h9) | (have h9 := hL.get 3 rfl; exact h9)) (by rfl) (by rfl) (by rfl) ?_; intro wz hL hB)
      | (refine wpList_litW4 hL hB (wanted_none rfl) _ _ _ _ rfl rfl rfl rfl rfl (by first | exact rd_none _ | (have h9 := hL.get 0 rfl; exact h9) | (have h9 := hL.get 1 rfl; exact h9) | (have h9 := hL.get 2 rfl; exact h9) | (have h9 := hL.get 3 rfl; exact h9)) (by first | exact rd_none _ | (have h9 := hL.get 0 rfl; exact h9) | (have h9 := hL.get 1 rfl; exact h9) | (have h9 := hL.get 2 rfl; exact h9) | (have h9 := hL.get 3 rfl; exact h9)) (by first | exact rd_none _ | (have h9 := hL.get 0 rfl; exact h9) | (have h9 := hL.get 1 rfl; exact h9) | (have h9 := hL.get 2 rfl; exact h9) | (have h9 := hL.get 3 rfl; exact h9)) (by first | exact rd_none _ | (have h9 := hL.get 0 rfl; exact h9) | (have h9 := hL.get 1 rfl; exact h9) | (have h9 := hL.get 2 rfl; exact h9) | (have h9 := hL.get 3 rfl; exact h9)) (by rfl) (by rfl) (by rfl) (by rfl) ?_; intro wz hL hB)
      | (refine wpList_litN4 hL hB (wanted_none rfl) _ _ _ _ rfl rfl rfl rfl rfl (by first | exact rd_none _ | (have h9 := hL.get 0 rfl; exact h9) | (have h9 := hL.get 1 rfl; exact h9) | (have h9 := hL.get 2 rfl; exact h9) | (have h9 := hL.get 3 rfl; exact h9)) (by first | exact rd_none _ | (have h9 := hL.get 0 rfl; exact h9) | (have h9 := hL.get 1 rfl; exact h9) | (have h9 := hL.get 2 rfl; exact h9) | (have h9 := hL.get 3 rfl; exact h9)) (by first | exact rd_none _ | (have h9 := hL.get 0 rfl; exact h9) | (have h9 := hL.get 1 rfl; exact h9) | (have h9 := hL.get 2 rfl; exact h9) | (have h9 := hL.get 3 rfl; exact h9)) (by first | exact rd_none _ | (have h9 := hL.get 0 rfl; exact h9) | (have h9 := hL.get 1 rfl; exact h9) | (have h9 := hL.get 2 rfl; exact h9) | (have h9 := hL.get 3 rfl; exact h9)) (by rfl) (by rfl) (by rfl) (by rfl) ?_; (obtain ⟨gN, hgN⟩ : ∃ gN, wz.heap.size = gN := ⟨_, rfl⟩); rw [hgN]; intro wn hL hB)
      | fail)
  refine (upto_any 2 12 (uptoW 2 12) _ (uptoW_asc 2 12) tl_m7 3 tl_b7).mono ?_
  rintro e w1 ⟨Ag, q1, rfl, hq1, hx1, hb1⟩
  rw [okL_err (by decide)] at hq1 hx1
  have hL := hL.next hb1
  have hB := below_next hB hb1
  clear hq1 hx1 hb1
  go_wp2_with (first
      | (refine wpList_lit1 hL hB (wanted_none rfl) _ rfl rfl ?_; intro wz hL hB)
      | (refine wpList_lit2 hL hB (wanted_none rfl) _ _ rfl rfl rfl ?_; intro wz hL hB)
      | (refine wpList_litW1 hL hB (wanted_none rfl) _ rfl rfl (by first | exact rd_none _ | (have h9 := hL.get 0 rfl; exact h9) | (have h9 := hL.get 1 rfl; exact h9) | (have h9 := hL.get 2 rfl; exact h9) | (have h9 := hL.get 3 rfl; exact h9)) (by rfl) ?_; intro wz hL hB)
      | (refine wpList_litW2 hL hB (wanted_none rfl) _ _ rfl rfl rfl (by first | exact rd_none _ | (have h9 := hL.get 0 rfl; exact h9) | (have h9 := hL.get 1 rfl; exact h9) | (have h9 := hL.get 2 rfl; exact h9) | (have h9 := hL.get 3 rfl; exact h9)) (by first | exact rd_none _ | (have h9 := hL.get 0 rfl; exact h9) | (have h9 := hL.get 1 rfl; exact h9) | (have h9 := hL.get 2 rfl; exact h9) | (have h9 := hL.get 3 rfl; exact h9)) (by rfl) (by rfl) ?_; intro wz hL hB)
      | (refine wpList_litW3 hL hB (wanted_none rfl) _ _ _ rfl rfl rfl rfl (by first | exact rd_none _ | (have h9 := hL.get 0 rfl; exact h9) | (have h9 := hL.get 1 rfl; exact h9) | (have h9 := hL.get 2 rfl; exact h9) | (have h9 := hL.get 3 rfl; exact h9)) (by first | exact rd_none _ | (have h9 := hL.get 0 rfl; exact h9) | (have h9 := hL.get 1 rfl; exact h9) | (have h9 := hL.get 2 rfl; exact h9) | (have h9 := hL.get 3 rfl; exact h9)) (by first | exact rd_none _ | (have h9 := hL.get 0 rfl; exact h9) | (have h9 := hL.get 1 rfl; exact h9) | (have h9 := hL.get 2 rfl; exact h9) | (have h9 := hL.get 3 rfl; exact h9)) (by rfl) (by rfl) (by rfl) ?_; intro wz hL hB)
      | (refine wpList_litW4 hL hB (wanted_none rfl) _ _ _ _ rfl rfl rfl rfl rfl (by first | exact rd_none _ | (have h9 := hL.get 0 rfl; exact h9) | (have h9 := hL.get 1 rfl; exact h9) | (have h9 := hL.get 2 rfl; exact h9) | (have h9 := hL.get 3 rfl; exact h9)) (by first | exact rd_none _ | (have h9 := hL.get 0 rfl; exact h9) | (have h9 := hL.get 1 rfl; exact h9) | (have h9 := hL.get 2 rfl; exact h9) | (have h9 := hL.get 3 rfl; exact h9)) (by first | exact rd_none _ | (have h9 := hL.get 0 rfl; exact h9) | (have h9 := hL.get 1 rfl; exact h9) | (have h9 := hL.get 2 rfl; exact h9) | (have h9 := hL.get 3 rfl; exact h9)) (by first | exact rd_none _ | (have h9 := hL.get 0 rfl; exact h9) | (have h9 := hL.get 1 rfl; exact h9) | (have h9 := hL.get 2 rfl; exact h9) | (have h9 := hL.get 3 rfl; exact h9)) (by rfl) (by rfl) (by rfl) (by rfl) ?_; intro wz hL hB)
      | (refine wpList_litN4 hL hB (wanted_none rfl) _ _ _ _ rfl rfl rfl rfl rfl (by first | exact rd_none _ | (have h9 := hL.get 0 rfl; exact h9) | (have h9 := hL.get 1 rfl; exact h9) | (have h9 := hL.get 2 rfl; exact h9) | (have h9 := hL.get 3 rfl; exact h9)) (by first | exact rd_none _ | (have h9 := hL.get 0 rfl; exact h9) | (have h9 := hL.get 1 rfl; exact h9) | (have h9 := hL.get 2 rfl; exact h9) | (have h9 := hL.get 3 rfl; exact h9)) (by first | exact rd_none _ | (have h9 := hL.get 0 rfl; exact h9) | (have h9 := hL.get 1 rfl; exact h9) | (have h9 := hL.get 2 rfl; exact h9) | (have h9 := hL.get 3 rfl; exact h9)) (by first | exact rd_none _ | (have h9 := hL.get 0 rfl; exact h9) | (have h9 := hL.get 1 rfl; exact h9) | (have h9 := hL.get 2 rfl; exact h9) | (have h9 := hL.get 3 rfl; exact h9)) (by rfl) (by rfl) (by rfl) (by rfl) ?_; (obtain ⟨gN, hgN⟩ : ∃ gN, wz.heap.size = gN := ⟨_, rfl⟩); rw [hgN]; intro wn hL hB)
      | fail)
  refine (list_any _ _ _ _).mono ?_
  rintro e wy ⟨rfl, hwy⟩
  subst hwy
  go_wp2_with (first
      | (refine wpList_lit1 hL hB (wanted_none rfl) _ rfl rfl ?_; intro wz hL hB)
      | (refine wpList_lit2 hL hB (wanted_none rfl) _ _ rfl rfl rfl ?_; intro wz hL hB)
      | (refine wpList_litW1 hL hB (wanted_none rfl) _ rfl rfl (by first | exact rd_none _ | (have h9 := hL.get 0 rfl; exact h9) | (have h9 := hL.get 1 rfl; exact h9) | (have h9 := hL.get 2 rfl; exact h9) | (have h9 := hL.get 3 rfl; exact h9)) (by rfl) ?_; intro wz hL hB)
      | (refine wpList_litW2 hL hB (wanted_none rfl) _ _ rfl rfl rfl (by first | exact rd_none _ | (have h9 := hL.get 0 rfl; exact h9) | (have h9 := hL.get 1 rfl; exact h9) | (have h9 := hL.get 2 rfl; exact h9) | (have h9 := hL.get 3 rfl; exact h9)) (by first | exact rd_none _ | (have h9 := hL.get 0 rfl; exact h9) | (have h9 := hL.get 1 rfl; exact h9) | (have h9 := hL.get 2 rfl; exact h9) | (have h9 := hL.get 3 rfl; exact h9)) (by rfl) (by rfl) ?_; intro wz hL hB)
      | (refine wpList_litW3 hL hB (wanted_none rfl) _ _ _ rfl rfl rfl rfl (by first | exact rd_none _ | (have h9 := hL.get 0 rfl; exact h9) | (have h9 := hL.get 1 rfl; exact h9) | (have h9 := hL.get 2 rfl; exact h9) | (have h9 := hL.get 3 rfl; exact h9)) (by first | exact rd_none _ | (have h9 := hL.get 0 rfl; exact h9) | (have h9 := hL.get 1 rfl; exact h9) | (have h9 := hL.get 2 rfl; exact h9) | (have h9 := hL.get 3 rfl; exact h9)) (by first | exact rd_none _ | (have h9 := hL.get 0 rfl; exact h9) | (have h9 := hL.get 1 rfl; exact h9) | (have h9 := hL.get 2 rfl; exact h9) | (have h9 := hL.get 3 rfl; exact h9)) (by rfl) (by rfl) (by rfl) ?_; intro wz hL hB)
      | (refine wpList_litW4 hL hB (wanted_none rfl) _ _ _ _ rfl rfl rfl rfl rfl (by first | exact rd_none _ | (have h9 := hL.get 0 rfl; exact h9) | (have h9 := hL.get 1 rfl; exact h9) | (have h9 := hL.get 2 rfl; exact h9) | (have h9 := hL.get 3 rfl; exact h9)) (by first | exact rd_none _ | (have h9 := hL.get 0 rfl; exact h9) | (have h9 := hL.get 1 rfl; exact h9) | (have h9 := hL.get 2 rfl; exact h9) | (have h9 := hL.get 3 rfl; exact h9)) (by first | exact rd_none _ | (have h9 := hL.get 0 rfl; exact h9) | (have h9 := hL.get 1 rfl; exact h9) | (have h9 := hL.get 2 rfl; exact h9) | (have h9 := hL.get 3 rfl; exact h9)) (by first | exact rd_none _ | (have h9 := hL.get 0 rfl; exact h9) | (have h9 := hL.get 1 rfl; exact h9) | (have h9 := hL.get 2 rfl; exact h9) | (have h9 := hL.get 3 rfl; exact h9)) (by rfl) (by rfl) (by rfl) (by rfl) ?_; intro wz hL hB)
      | (refine wpList_litN4 hL hB (wanted_none rfl) _ _ _ _ rfl rfl rfl rfl rfl (by first | exact rd_none _ | (have h9 := hL.get 0 rfl; exact h9) | (have h9 := hL.get 1 rfl; exact h9) | (have h9 := hL.get 2 rfl; exact h9) | (have h9 := hL.get 3 rfl; exact h9)) (by first | exact rd_none _ | (have h9 := hL.get 0 rfl; exact h9) | (have h9 := hL.get 1 rfl; exact h9) | (have h9 := hL.get 2 rfl; exact h9) | (have h9 := hL.get 3 rfl; exact h9)) (by first | exact rd_none _ | (have h9 := hL.get 0 rfl; exact h9) | (have h9 := hL.get 1 rfl; exact h9) | (have h9 := hL.get 2 rfl; exact h9) | (have h9 := hL.get 3 rfl; exact h9)) (by first | exact rd_none _ | (have h9 := hL.get 0 rfl; exact h9) | (have h9 := hL.get 1 rfl; exact h9) | (have h9 := hL.get 2 rfl; exact h9) | (have h9 := hL.get 3 rfl; exact h9)) (by rfl) (by rfl) (by rfl) (by rfl) ?_; (obtain ⟨gN, hgN⟩ : ∃ gN, wz.heap.size = gN := ⟨_, rfl⟩); rw [hgN]; intro wn hL hB)
      | fail)
  refine (tof_any _ _ _ [[0], [1, 0]] [[], [0], [1], [1, 0]] 2 _ (hL.get 0 rfl) rfl (by decide) tl_p 0 (M.chE_zero.2 tl_v8)).mono ?_
  rintro e w1 (⟨_, gt, rfl, hx1, hb1⟩ | ⟨h9, _⟩)
  case inr => exact absurd rfl h9
  have hL := (hL.next hb1).put (P := kRdN (some ⟨gt, 0, none⟩) tlN) hx1
  have hB := below_next hB hb1
  clear hx1 hb1
  have hbA : Below w1.heap.size w1 (w1.alloc (.cells #[.int .i64 2, .slice (some ⟨gt, 0, none⟩) 4 4] 56)) := (Below.refl _ _).alloc (Nat.le_refl _) _
  have hL := (hL.next hbA).put (P := kBx2 w1.heap.size 56 (.int .i64 2) (.slice (some ⟨gt, 0, none⟩) 4 4)) (Bx2.new _ _ _ _)
  have hB := below_next hB hbA
  clear hbA
  obtain ⟨W9, hW9⟩ : ∃ W9, w1.alloc (.cells #[.int .i64 2, .slice (some ⟨gt, 0, none⟩) 4 4] 56) = W9 := ⟨_, rfl⟩
  obtain ⟨g9, hg9⟩ : ∃ g9, w1.heap.size = g9 := ⟨_, rfl⟩
  rw [hW9] at hL hB
  rw [hg9] at hL
  obtain ⟨c0, c1, _, _⟩ := Bx2.cells (hL.get 0 rfl : Bx2 _ _ _ _ _)
  go_wp2_with (first
      | (refine wpList_lit1 hL hB (wanted_none rfl) _ rfl rfl ?_; intro wz hL hB)
      | (refine wpList_lit2 hL hB (wanted_none rfl) _ _ rfl rfl rfl ?_; intro wz hL hB)
      | (refine wpList_litW1 hL hB (wanted_none rfl) _ rfl rfl (by first | exact rd_none _ | (have h9 := hL.get 0 rfl; exact h9) | (have h9 := hL.get 1 rfl; exact h9) | (have h9 := hL.get 2 rfl; exact h9) | (have h9 := hL.get 3 rfl; exact h9)) (by rfl) ?_; intro wz hL hB)
      | (refine wpList_litW2 hL hB (wanted_none rfl) _ _ rfl rfl rfl (by first | exact rd_none _ | (have h9 := hL.get 0 rfl; exact h9) | (have h9 := hL.get 1 rfl; exact h9) | (have h9 := hL.get 2 rfl; exact h9) | (have h9 := hL.get 3 rfl; exact h9)) (by first | exact rd_none _ | (have h9 := hL.get 0 rfl; exact h9) | (have h9 := hL.get 1 rfl; exact h9) | (have h9 := hL.get 2 rfl; exact h9) | (have h9 := hL.get 3 rfl; exact h9)) (by rfl) (by rfl) ?_; intro wz hL hB)
      | (refine wpList_litW3 hL hB (wanted_none rfl) _ _ _ rfl rfl rfl rfl (by first | exact rd_none _ | (have h9 := hL.get 0 rfl; exact h9) | (have h9 := hL.get 1 rfl; exact h9) | (have h9 := hL.get 2 rfl; exact h9) | (have h9 := hL.get 3 rfl; exact h9)) (by first | exact rd_none _ | (have h9 := hL.get 0 rfl; exact h9) | (have h9 := hL.get 1 rfl; exact h9) | (have h9 := hL.get 2 rfl; exact h9) | (have h9 := hL.get 3 rfl; exact h9)) (by first | exact rd_none _ | (have h9 := hL.get 0 rfl; exact h9) | (have h9 := hL.get 1 rfl; exact h9) | (have h9 := hL.get 2 rfl; exact h9) | (have h9 := hL.get 3 rfl; exact h9)) (by rfl) (by rfl) (by rfl) ?_; intro wz hL hB)
      | (refine wpList_litW4 hL hB (wanted_none rfl) _ _ _ _ rfl rfl rfl rfl rfl (by first | exact rd_none _ | (have h9 := hL.get 0 rfl; exact h9) | (have h9 := hL.get 1 rfl; exact h9) | (have h9 := hL.get 2 rfl; exact h9) | (have h9 := hL.get 3 rfl; exact h9)) (by first | exact rd_none _ | (have h9 := hL.get 0 rfl; exact h9) | (have h9 := hL.get 1 rfl; exact h9) | (have h9 := hL.get 2 rfl; exact h9) | (have h9 := hL.get 3 rfl; exact h9)) (by first | exact rd_none _ | (have h9 := hL.get 0 rfl; exact h9) | (have h9 := hL.get 1 rfl; exact h9) | (have h9 := hL.get 2 rfl; exact h9) | (have h9 := hL.get 3 rfl; exact h9)) (by first | exact rd_none _ | (have h9 := hL.get 0 rfl; exact h9) | (have h9 := hL.get 1 rfl; exact h9) | (have h9 := hL.get 2 rfl; exact h9) | (have h9 := hL.get 3 rfl; exact h9)) (by rfl) (by rfl) (by rfl) (by rfl) ?_; intro wz hL hB)
      | (refine wpList_litN4 hL hB (wanted_none rfl) _ _ _ _ rfl rfl rfl rfl rfl (by first | exact rd_none _ | (have h9 := hL.get 0 rfl; exact h9) | (have h9 := hL.get 1 rfl; exact h9) | (have h9 := hL.get 2 rfl; exact h9) | (have h9 := hL.get 3 rfl; exact h9)) (by first | exact rd_none _ | (have h9 := hL.get 0 rfl; exact h9) | (have h9 := hL.get 1 rfl; exact h9) | (have h9 := hL.get 2 rfl; exact h9) | (have h9 := hL.get 3 rfl; exact h9)) (by first | exact rd_none _ | (have h9 := hL.get 0 rfl; exact h9) | (have h9 := hL.get 1 rfl; exact h9) | (have h9 := hL.get 2 rfl; exact h9) | (have h9 := hL.get 3 rfl; exact h9)) (by first | exact rd_none _ | (have h9 := hL.get 0 rfl; exact h9) | (have h9 := hL.get 1 rfl; exact h9) | (have h9 := hL.get 2 rfl; exact h9) | (have h9 := hL.get 3 rfl; exact h9)) (by rfl) (by rfl) (by rfl) (by rfl) ?_; (obtain ⟨gN, hgN⟩ : ∃ gN, wz.heap.size = gN := ⟨_, rfl⟩); rw [hgN]; intro wn hL hB)
      | fail)
  refine (tcount_any (some ⟨gt, 0, none⟩) 4 4 tlN [[], [0], [1], [1, 0]] 2 _ (hL.get 1 rfl) rfl (by decide) (fun _ _ _ => tl_k) 0 (wzE_ok tl_ok)).mono ?_
  rintro e w2 ⟨rfl, hb1⟩
  have hL := hL.next hb1
  have hB := below_next hB hb1
  clear hb1 c0 c1 hW9 hg9
  rw [if_pos rfl, show ((lvs tlN : Nat) : Int) = 2 from by decide]
  go_upto_region 14 with (first
      | (refine wpList_lit1 hL hB (wanted_none rfl) _ rfl rfl ?_; intro wz hL hB)
      | (refine wpList_lit2 hL hB (wanted_none rfl) _ _ rfl rfl rfl ?_; intro wz hL hB)
      | (refine wpList_litW1 hL hB (wanted_none rfl) _ rfl rfl (by first | exact rd_none _ | (have h9 := hL.get 0 rfl; exact h9) | (have h9 := hL.get 1 rfl; exact h9) | (have h9 := hL.get 2 rfl; exact h9) | (have h9 := hL.get 3 rfl; exact h9)) (by rfl) ?_; intro wz hL hB)
      | (refine wpList_litW2 hL hB (wanted_none rfl) _ _ rfl rfl rfl (by first | exact rd_none _ | (have h9 := hL.get 0 rfl; exact h9) | (have h9 := hL.get 1 rfl; exact h9) | (have h9 := hL.get 2 rfl; exact h9) | (have h9 := hL.get 3 rfl; exact h9)) (by first | exact rd_none _ | (have h9 := hL.get 0 rfl; exact h9) | (have h9 := hL.get 1 rfl; exact h9) | (have h9 := hL.get 2 rfl; exact h9) | (have h9 := hL.get 3 rfl; exact h9)) (by rfl) (by rfl) ?_; intro wz hL hB)
      | (refine wpList_litW3 hL hB (wanted_none rfl) _ _ _ rfl rfl rfl rfl (by first | exact rd_none _ | (have h9 := hL.get 0 rfl; exact h9) | (have h9 := hL.get 1 rfl; exact h9) | (have h9 := hL.get 2 rfl; exact h9) | (have h9 := hL.get 3 rfl; exact h9)) (by first | exact rd_none _ | (have h9 := hL.get 0 rfl; exact h9) | (have h9 := hL.get 1 rfl; exact h9) | (have h9 := hL.get 2 rfl; exact h9) | (have h9 := hL.get 3 rfl; exact h9)) (by first | exact rd_none _ | (have h9 := hL.get 0 rfl; exact h9) | (have h9 := hL.get 1 rfl; exact h9) | (have h9 := hL.get 2 rfl; exact h9) | (have h9 := hL.get 3 rfl; exact h9)) (by rfl) (by rfl) (by rfl) ?_; intro wz hL hB)
      | (refine wpList_litW4 hL hB (wanted_none rfl) _ _ _ _ rfl rfl rfl rfl rfl (by first | exact rd_none _ | (have h9 := hL.get 0 rfl; exact h9) | (have h9 := hL.get 1 rfl; exact h9) | (have h9 := hL.get 2 rfl; exact h9) | (have h9 := hL.get 3 rfl; exact h9)) (by first | exact rd_none _ | (have h9 := hL.get 0 rfl; exact h9) | (have h9 := hL.get 1 rfl; exact h9) | (have h9 := hL.get 2 rfl; exact h9) | (have h9 := hL.get 3 rfl; exact h9)) (by first | exact rd_none _ | (have h9 := hL.get 0 rfl; exact h9) | (have h9 := hL.get 1 rfl; exact h9) | (have h9 := hL.get 2 rfl; exact h9) | (have h9 := hL.get 3 rfl; exact h9)) (by first | exact rd_none _ | (have h9 := hL.get 0 rfl; exact h9) | (have h9 := hL.get 1 rfl; exact h9) | (have h9 := hL.get 2 rfl; exact h9) | (have h9 := hL.get 3 rfl; exact h9)) (by rfl) (by rfl) (by rfl) (by rfl) ?_; intro wz hL hB)
      | (refine wpList_litN4 hL hB (wanted_none rfl) _ _ _ _ rfl rfl rfl rfl rfl (by first | exact rd_none _ | (have h9 := hL.get 0 rfl; exact h9) | (have h9 := hL.get 1 rfl; exact h9) | (have h9 := hL.get 2 rfl; exact h9) | (have h9 := hL.get 3 rfl; exact h9)) (by first | exact rd_none _ | (have h9 := hL.get 0 rfl; exact h9) | (have h9 := hL.get 1 rfl; exact h9) | (have h9 := hL.get 2 rfl; exact h9) | (have h9 := hL.get 3 rfl; exact h9)) (by first | exact rd_none _ | (have h9 := hL.get 0 rfl; exact h9) | (have h9 := hL.get 1 rfl; exact h9) | (have h9 := hL.get 2 rfl; exact h9) | (have h9 := hL.get 3 rfl; exact h9)) (by first | exact rd_none _ | (have h9 := hL.get 0 rfl; exact h9) | (have h9 := hL.get 1 rfl; exact h9) | (have h9 := hL.get 2 rfl; exact h9) | (have h9 := hL.get 3 rfl; exact h9)) (by rfl) (by rfl) (by rfl) (by rfl) ?_; (obtain ⟨gN, hgN⟩ : ∃ gN, wz.heap.size = gN := ⟨_, rfl⟩); rw [hgN]; intro wn hL hB)
      | fail)
  have hbA : Below wn.heap.size wn (wn.alloc (.cells #[.int .i64 2, .slice (some ⟨gN, 0, none⟩) 4 4] 56)) := (Below.refl _ _).alloc (Nat.le_refl _) _
  have hL := (hL.next hbA).put (P := kBx2 wn.heap.size 56 (.int .i64 2) (.slice (some ⟨gN, 0, none⟩) 4 4)) (Bx2.new _ _ _ _)
  have hB := below_next hB hbA
  obtain ⟨W3, hW3⟩ : ∃ W3, wn.alloc (.cells #[.int .i64 2, .slice (some ⟨gN, 0, none⟩) 4 4] 56) = W3 := ⟨_, rfl⟩
  obtain ⟨g13, hg13⟩ : ∃ g13, wn.heap.size = g13 := ⟨_, rfl⟩
  rw [hW3] at hL hB ⊢
  rw [hg13] at hL ⊢
  clear hW3 hg13 hbA
  go_wp2_with fail
  refine (list_any _ _ _ _).mono ?_
  rintro e wy ⟨rfl, hwy⟩
  have hcx := ch_rds W3 [none, some [0], some [1]]
  have hL := (hL.next hcx.2).put (P := kRdS _ _) hcx.1
  have hB := below_next hB hcx.2
  have hwy2 : wy = _ := hwy
  have hwy3 : (chW W3 [none, some [0], some [1]]).alloc (.cells (chV W3.heap.size [none, some [0], some [1]]).toArray 23) = wy := hwy.symm
  rw [hwy3] at hL hB
  clear hcx hwy hwy2 hwy3
  go_wp2_with fail
  refine (same_yes Ae _ 3 3 [[], [0], [1]] _ (hL.get 13 rfl) (hL.get 0 rfl) rfl (by decide) (by unfold Wl; decide)).mono ?_
  rintro e w1 ⟨rfl, hb1⟩
  have hL := hL.next hb1
  have hB := below_next hB hb1
  clear hb1
  go_wp2_with fail
  refine (list_any _ _ _ _).mono ?_
  rintro e wy ⟨rfl, hwy⟩
  have hcx := ch_rds w1 [some [0, 0], some [0, 1], some [1, 0], some [1, 1]]
  have hL := (hL.next hcx.2).put (P := kRdS _ _) hcx.1
  have hB := below_next hB hcx.2
  have hwy2 : wy = _ := hwy
  have hwy3 : (chW w1 [some [0, 0], some [0, 1], some [1, 0], some [1, 1]]).alloc (.cells (chV w1.heap.size [some [0, 0], some [0, 1], some [1, 0], some [1, 1]]).toArray 23) = wy := hwy.symm
  rw [hwy3] at hL hB
  clear hcx hwy hwy2 hwy3
  go_wp2_with fail
  refine (same_yes Af _ 4 4 [[0, 0], [0, 1], [1, 0], [1, 1]] _ (hL.get 13 rfl) (hL.get 0 rfl) rfl (by decide) (by unfold Wl; decide)).mono ?_
  rintro e w1 ⟨rfl, hb1⟩
  have hL := hL.next hb1
  have hB := below_next hB hb1
  clear hb1
  obtain ⟨c0, c1, _, _⟩ := Bx2.cells (hL.get 8 rfl : Bx2 _ _ _ _ _)
  obtain ⟨d0, d1, _, _⟩ := Bx2.cells (hL.get 2 rfl : Bx2 _ _ _ _ _)
  go_wp2_with fail
  refine (vequal_any (some ⟨gt, 0, none⟩) (some ⟨gN, 0, none⟩) 4 4 4 4 2 2 tlN tlN _ (hL.get 9 rfl) (hL.get 3 rfl) rfl rfl (by decide) (by decide) true (by simp)).mono ?_
  rintro e w1 ⟨rfl, hb1⟩
  have hL := hL.next hb1
  have hB := below_next hB hb1
  clear hb1 c0 c1 d0 d1
  go_wp2_with (first
      | (refine wpList_lit1 hL hB (wanted_none rfl) _ rfl rfl ?_; intro wz hL hB)
      | (refine wpList_lit2 hL hB (wanted_none rfl) _ _ rfl rfl rfl ?_; intro wz hL hB)
      | (refine wpList_litW1 hL hB (wanted_none rfl) _ rfl rfl (by first | exact rd_none _ | (have h9 := hL.get 0 rfl; exact h9) | (have h9 := hL.get 1 rfl; exact h9) | (have h9 := hL.get 2 rfl; exact h9) | (have h9 := hL.get 3 rfl; exact h9)) (by rfl) ?_; intro wz hL hB)
      | (refine wpList_litW2 hL hB (wanted_none rfl) _ _ rfl rfl rfl (by first | exact rd_none _ | (have h9 := hL.get 0 rfl; exact h9) | (have h9 := hL.get 1 rfl; exact h9) | (have h9 := hL.get 2 rfl; exact h9) | (have h9 := hL.get 3 rfl; exact h9)) (by first | exact rd_none _ | (have h9 := hL.get 0 rfl; exact h9) | (have h9 := hL.get 1 rfl; exact h9) | (have h9 := hL.get 2 rfl; exact h9) | (have h9 := hL.get 3 rfl; exact h9)) (by rfl) (by rfl) ?_; intro wz hL hB)
      | (refine wpList_litW3 hL hB (wanted_none rfl) _ _ _ rfl rfl rfl rfl (by first | exact rd_none _ | (have h9 := hL.get 0 rfl; exact h9) | (have h9 := hL.get 1 rfl; exact h9) | (have h9 := hL.get 2 rfl; exact h9) | (have h9 := hL.get 3 rfl; exact h9)) (by first | exact rd_none _ | (have h9 := hL.get 0 rfl; exact h9) | (have h9 := hL.get 1 rfl; exact h9) | (have h9 := hL.get 2 rfl; exact h9) | (have h9 := hL.get 3 rfl; exact h9)) (by first | exact rd_none _ | (have h9 := hL.get 0 rfl; exact h9) | (have h9 := hL.get 1 rfl; exact h9) | (have h9 := hL.get 2 rfl; exact h9) | (have h9 := hL.get 3 rfl; exact h9)) (by rfl) (by rfl) (by rfl) ?_; intro wz hL hB)
      | (refine wpList_litW4 hL hB (wanted_none rfl) _ _ _ _ rfl rfl rfl rfl rfl (by first | exact rd_none _ | (have h9 := hL.get 0 rfl; exact h9) | (have h9 := hL.get 1 rfl; exact h9) | (have h9 := hL.get 2 rfl; exact h9) | (have h9 := hL.get 3 rfl; exact h9)) (by first | exact rd_none _ | (have h9 := hL.get 0 rfl; exact h9) | (have h9 := hL.get 1 rfl; exact h9) | (have h9 := hL.get 2 rfl; exact h9) | (have h9 := hL.get 3 rfl; exact h9)) (by first | exact rd_none _ | (have h9 := hL.get 0 rfl; exact h9) | (have h9 := hL.get 1 rfl; exact h9) | (have h9 := hL.get 2 rfl; exact h9) | (have h9 := hL.get 3 rfl; exact h9)) (by first | exact rd_none _ | (have h9 := hL.get 0 rfl; exact h9) | (have h9 := hL.get 1 rfl; exact h9) | (have h9 := hL.get 2 rfl; exact h9) | (have h9 := hL.get 3 rfl; exact h9)) (by rfl) (by rfl) (by rfl) (by rfl) ?_; intro wz hL hB)
      | (refine wpList_litN4 hL hB (wanted_none rfl) _ _ _ _ rfl rfl rfl rfl rfl (by first | exact rd_none _ | (have h9 := hL.get 0 rfl; exact h9) | (have h9 := hL.get 1 rfl; exact h9) | (have h9 := hL.get 2 rfl; exact h9) | (have h9 := hL.get 3 rfl; exact h9)) (by first | exact rd_none _ | (have h9 := hL.get 0 rfl; exact h9) | (have h9 := hL.get 1 rfl; exact h9) | (have h9 := hL.get 2 rfl; exact h9) | (have h9 := hL.get 3 rfl; exact h9)) (by first | exact rd_none _ | (have h9 := hL.get 0 rfl; exact h9) | (have h9 := hL.get 1 rfl; exact h9) | (have h9 := hL.get 2 rfl; exact h9) | (have h9 := hL.get 3 rfl; exact h9)) (by first | exact rd_none _ | (have h9 := hL.get 0 rfl; exact h9) | (have h9 := hL.get 1 rfl; exact h9) | (have h9 := hL.get 2 rfl; exact h9) | (have h9 := hL.get 3 rfl; exact h9)) (by rfl) (by rfl) (by rfl) (by rfl) ?_; (obtain ⟨gN, hgN⟩ : ∃ gN, wz.heap.size = gN := ⟨_, rfl⟩); rw [hgN]; intro wn hL hB)
      | fail)
  refine (list_any _ _ _ _).mono ?_
  rintro e wy ⟨rfl, hwy⟩
  subst hwy
  go_wp2_with (first
      | (refine wpList_lit1 hL hB (wanted_none rfl) _ rfl rfl ?_; intro wz hL hB)
      | (refine wpList_lit2 hL hB (wanted_none rfl) _ _ rfl rfl rfl ?_; intro wz hL hB)
      | (refine wpList_litW1 hL hB (wanted_none rfl) _ rfl rfl (by first | exact rd_none _ | (have h9 := hL.get 0 rfl; exact h9) | (have h9 := hL.get 1 rfl; exact h9) | (have h9 := hL.get 2 rfl; exact h9) | (have h9 := hL.get 3 rfl; exact h9)) (by rfl) ?_; intro wz hL hB)
      | (refine wpList_litW2 hL hB (wanted_none rfl) _ _ rfl rfl rfl (by first | exact rd_none _ | (have h9 := hL.get 0 rfl; exact h9) | (have h9 := hL.get 1 rfl; exact h9) | (have h9 := hL.get 2 rfl; exact h9) | (have h9 := hL.get 3 rfl; exact h9)) (by first | exact rd_none _ | (have h9 := hL.get 0 rfl; exact h9) | (have h9 := hL.get 1 rfl; exact h9) | (have h9 := hL.get 2 rfl; exact h9) | (have h9 := hL.get 3 rfl; exact h9)) (by rfl) (by rfl) ?_; intro wz hL hB)
      | (refine wpList_litW3 hL hB (wanted_none rfl) _ _ _ rfl rfl rfl rfl (by first | exact rd_none _ | (have h9 := hL.get 0 rfl; exact h9) | (have h9 := hL.get 1 rfl; exact h9) | (have h9 := hL.get 2 rfl; exact h9) | (have h9 := hL.get 3 rfl; exact h9)) (by first | exact rd_none _ | (have h9 := hL.get 0 rfl; exact h9) | (have h9 := hL.get 1 rfl; exact h9) | (have h9 := hL.get 2 rfl; exact h9) | (have h9 := hL.get 3 rfl; exact h9)) (by first | exact rd_none _ | (have h9 := hL.get 0 rfl; exact h9) | (have h9 := hL.get 1 rfl; exact h9) | (have h9 := hL.get 2 rfl; exact h9) | (have h9 := hL.get 3 rfl; exact h9)) (by rfl) (by rfl) (by rfl) ?_; intro wz hL hB)
      | (refine wpList_litW4 hL hB (wanted_none rfl) _ _ _ _ rfl rfl rfl rfl rfl (by first | exact rd_none _ | (have h9 := hL.get 0 rfl; exact h9) | (have h9 := hL.get 1 rfl; exact h9) | (have h9 := hL.get 2 rfl; exact h9) | (have h9 := hL.get 3 rfl; exact h9)) (by first | exact rd_none _ | (have h9 := hL.get 0 rfl; exact h9) | (have h9 := hL.get 1 rfl; exact h9) | (have h9 := hL.get 2 rfl; exact h9) | (have h9 := hL.get 3 rfl; exact h9)) (by first | exact rd_none _ | (have h9 := hL.get 0 rfl; exact h9) | (have h9 := hL.get 1 rfl; exact h9) | (have h9 := hL.get 2 rfl; exact h9) | (have h9 := hL.get 3 rfl; exact h9)) (by first | exact rd_none _ | (have h9 := hL.get 0 rfl; exact h9) | (have h9 := hL.get 1 rfl; exact h9) | (have h9 := hL.get 2 rfl; exact h9) | (have h9 := hL.get 3 rfl; exact h9)) (by rfl) (by rfl) (by rfl) (by rfl) ?_; intro wz hL hB)
      | (refine wpList_litN4 hL hB (wanted_none rfl) _ _ _ _ rfl rfl rfl rfl rfl (by first | exact rd_none _ | (have h9 := hL.get 0 rfl; exact h9) | (have h9 := hL.get 1 rfl; exact h9) | (have h9 := hL.get 2 rfl; exact h9) | (have h9 := hL.get 3 rfl; exact h9)) (by first | exact rd_none _ | (have h9 := hL.get 0 rfl; exact h9) | (have h9 := hL.get 1 rfl; exact h9) | (have h9 := hL.get 2 rfl; exact h9) | (have h9 := hL.get 3 rfl; exact h9)) (by first | exact rd_none _ | (have h9 := hL.get 0 rfl; exact h9) | (have h9 := hL.get 1 rfl; exact h9) | (have h9 := hL.get 2 rfl; exact h9) | (have h9 := hL.get 3 rfl; exact h9)) (by first | exact rd_none _ | (have h9 := hL.get 0 rfl; exact h9) | (have h9 := hL.get 1 rfl; exact h9) | (have h9 := hL.get 2 rfl; exact h9) | (have h9 := hL.get 3 rfl; exact h9)) (by rfl) (by rfl) (by rfl) (by rfl) ?_; (obtain ⟨gN, hgN⟩ : ∃ gN, wz.heap.size = gN := ⟨_, rfl⟩); rw [hgN]; intro wn hL hB)
      | fail)
  refine (tcheck_any _ _ 2 [[1], [0]] 2 _ (hL.get 0 rfl) rfl (by decide)).mono ?_
  rintro e w1 ⟨rfl, hb1⟩
  have hL := hL.next hb1
  have hB := below_next hB hb1
  clear hb1
  rw [tl_c1]
  go_wp2_with fail
  refine (list_any _ _ _ _).mono ?_
  rintro e wy ⟨rfl, hwy⟩
  have hcx := ch_rds w1 [some [0], some [2]]
  have hL := (hL.next hcx.2).put (P := kRdS _ _) hcx.1
  have hB := below_next hB hcx.2
  have hwy2 : wy = _ := hwy
  have hwy3 : (chW w1 [some [0], some [2]]).alloc (.cells (chV w1.heap.size [some [0], some [2]]).toArray 23) = wy := hwy.symm
  rw [hwy3] at hL hB
  clear hcx hwy hwy2 hwy3
  go_wp2_with fail
  refine (tcheck_any _ _ 2 [[0], [2]] 2 _ (hL.get 0 rfl) rfl (by decide)).mono ?_
  rintro e w1 ⟨rfl, hb1⟩
  have hL := hL.next hb1
  have hB := below_next hB hb1
  clear hb1
  rw [tl_c2]
  go_wp2_with fail
  refine (tcheck_any _ _ 0 [] 0 _ (fun h => absurd h (by simp)) rfl (by decide)).mono ?_
  rintro e w1 ⟨rfl, hb1⟩
  have hL := hL.next hb1
  have hB := below_next hB hb1
  clear hb1
  rw [tl_c3]
  go_wp2_with fail
  refine (tcheck_any _ _ 0 [] 17 _ (fun h => absurd h (by simp)) rfl (by decide)).mono ?_
  rintro e w1 ⟨rfl, hb1⟩
  have hL := hL.next hb1
  have hB := below_next hB hb1
  clear hb1
  rw [tl_c4]
  go_wp2
  go_ret
  exact ⟨rfl, hB⟩
end Go.Proofs.Ytjodhihcckcefaa
