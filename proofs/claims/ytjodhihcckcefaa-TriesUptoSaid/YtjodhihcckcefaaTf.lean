/-
  The law's own: few; sorted lists exist. No statement is proved here.
-/
import Derived.Test.YtjodhihcckcefaaTlM
namespace Go.Proofs.Ytjodhihcckcefaa
open Go.RowKit Go.Maps

theorem asc_add {S : List (List Int)} (h : M.asc S) (x : List Int) : ∃ T, M.asc T ∧ ∀ y, y ∈ T ↔ y ∈ S ∨ y = x := by
  refine ⟨S.filter (fun y => decide (M.cmp y x = -1)) ++ x :: S.filter (fun y => decide (M.cmp x y = -1)), ?_, fun y => ?_⟩
  · show List.Pairwise _ _
    rw [List.pairwise_append]
    refine ⟨List.Pairwise.sublist List.filter_sublist h, List.pairwise_cons.2 ⟨fun y hy => ?_, List.Pairwise.sublist List.filter_sublist h⟩, fun a ha b hb => ?_⟩
    · exact of_decide_eq_true (List.mem_filter.1 hy).2
    · have h1 : M.cmp a x = -1 := of_decide_eq_true (List.mem_filter.1 ha).2
      rcases List.mem_cons.1 hb with rfl | hb
      · exact h1
      · exact M.lt_trans h1 (of_decide_eq_true (List.mem_filter.1 hb).2)
  · rw [List.mem_append, List.mem_cons, List.mem_filter, List.mem_filter]
    constructor
    · rintro (h1 | rfl | h1)
      · exact Or.inl h1.1
      · exact Or.inr rfl
      · exact Or.inl h1.1
    · rintro (h1 | rfl)
      · have r := M.cmp_range y x
        have s := M.cmp_swap y x
        rcases r with r | r | r
        · exact Or.inl ⟨h1, decide_eq_true r⟩
        · exact Or.inr (Or.inl (M.cmp_zero_iff.1 r))
        · exact Or.inr (Or.inr ⟨h1, decide_eq_true (by omega)⟩)
      · exact Or.inr (Or.inl rfl)
theorem asc_of : ∀ rows : List (List Int), ∃ S, M.asc S ∧ ∀ y, y ∈ S ↔ y ∈ rows
  | [] => ⟨[], List.Pairwise.nil, fun _ => Iff.rfl⟩
  | x :: rows => by
    obtain ⟨S, h1, h2⟩ := asc_of rows
    obtain ⟨T, h3, h4⟩ := asc_add h1 x
    refine ⟨T, h3, fun y => ?_⟩
    rw [h4, h2, List.mem_cons]
    exact Or.comm
theorem total_le_mul : ∀ {l : List (List Int)} {b : Nat}, (∀ x ∈ l, x.length ≤ b) → M.total l ≤ l.length * b
  | [], _, _ => by simp [M.total]
  | a :: l, b, h => by
    have h1 := total_le_mul (l := l) (b := b) fun x hx => h x (by simp [hx])
    have h2 := h a (by simp)
    have e : M.total (a :: l) = a.length + M.total l := by simp [M.total]
    rw [e, List.length_cons, Nat.succ_mul]
    omega
set_option maxRecDepth 100000 in
set_option maxHeartbeats 1000000 in
theorem vsteps_free (L : Option Addr) (c N : Nat) (rows : List (List Int)) (w : World) (h : RdS w L rows) (hN : rows.length = N) (hm : N ≤ 9223372036854775807) :
    Calls Try.prog 20 #[.slice L N c] w fun e w' => (∃ z : Int, e = .returned (.int .i64 z)) ∧ w' = w := by
  have HN := Lib.hid hN
  have HH := Lib.hid h
  clear hN h
  go_enter Try.func20, Try.ntmps20
  go_wp2
  go_loopw [3, 4] (fun u v wr => ∃ (k : Nat) (z : Int), k ≤ N ∧ u = .int .i64 z ∧ v = .int .i64 k ∧ wr = w) (fun _ v _ => N - (intOf v).toNat)
  case atStart => exact ⟨0, 0, Nat.zero_le _, rfl, rfl, rfl⟩
  case round =>
    obtain ⟨k, z, hk, rfl, rfl, rfl⟩ := hrel
    by_cases hlt : k < N
    · obtain ⟨b, off, A, cc, m, rfl, hbl, hc, _, _⟩ := HH.out.at_ (k := k) (by rw [HN.out]; exact hlt)
      go_wp2
      go_roundw
      case rel => exact ⟨k + 1, _, by omega, rfl, by go_num, trivial⟩
      case measure => simp [intOf]; omega
    · obtain rfl : k = N := by omega
      go_wp2
      go_ret
      exact ⟨⟨z, rfl⟩, rfl⟩
set_option maxRecDepth 100000 in
set_option maxHeartbeats 1000000 in
theorem few_any (L : Option Addr) (c N : Nat) (rows : List (List Int)) (w : World) (h : RdS w L rows) (hN : rows.length = N) (hm : N ≤ 9223372036854775807) :
    Calls Try.prog 12 #[.slice L N c] w fun e w' => (∃ r : Int, e = .returned (.int .i64 r) ∧ (r = 0 ∨ r = 1) ∧ (r = 0 → N ≤ 60)) ∧ w' = w := by
  have CS := Lib.hid (vsteps_free L c N rows w h hN hm)
  clear h hN
  by_cases h60 : 60 < N
  · have d1 : decide ((60 : Int) < N) = true := decide_eq_true (by omega)
    have d2 : (60 : Int) < N := by omega
    go_enter Try.func12, Try.ntmps12
    go_wp2
    go_ret
    exact ⟨⟨1, rfl, Or.inr rfl, fun e => by cases e⟩, rfl⟩
  · have d1 : decide ((60 : Int) < N) = false := decide_eq_false (by omega)
    have d2 : ¬ (60 : Int) < N := by omega
    go_enter Try.func12, Try.ntmps12
    go_wp2_with fail
    refine CS.out.mono ?_
    rintro e w1 ⟨⟨z, rfl⟩, rfl⟩
    by_cases hz : 600 < z
    · have d3 : decide ((600 : Int) < z) = true := decide_eq_true hz
      go_wp2
      go_ret
      exact ⟨⟨1, rfl, Or.inr rfl, fun e => by cases e⟩, rfl⟩
    · have d3 : decide ((600 : Int) < z) = false := decide_eq_false hz
      go_wp2
      go_ret
      exact ⟨⟨0, rfl, Or.inl rfl, fun _ => by omega⟩, rfl⟩
end Go.Proofs.Ytjodhihcckcefaa
