/-
  The walk of the law TriesUpto. No statement is proved here.
-/
import Derived.Test.YtjodhihcckcefaaV9
import Derived.Test.YtjodhihcckcefaaTl
import Derived.Test.YtjodhihcckcefaaTf
namespace Go.Proofs.Ytjodhihcckcefaa
open Go.RowKit Go.Maps

theorem val_nat {n : Int} {y : List Int} : M.Val n y ↔ M.Val (n.toNat : Int) y := by
  constructor <;> intro h z hz <;> have := h z hz <;> omega
theorem up_ex (n k : Int) : ∃ S, M.asc S ∧ ∀ y, y ∈ S ↔ M.Val n y ∧ (y.length : Int) ≤ k := by
  by_cases h : k < 0
  · refine ⟨[], List.Pairwise.nil, fun y => ⟨fun h1 => (by cases h1), fun h1 => by omega⟩⟩
  · refine ⟨uptoW n.toNat k.toNat, uptoW_asc _ _, fun y => ?_⟩
    rw [uptoW_mem, ← val_nat]
    constructor <;> (rintro ⟨a, b⟩; exact ⟨a, by omega⟩)
theorem ex_ex (n k : Int) : ∃ S, M.asc S ∧ ∀ y, y ∈ S ↔ M.Val n y ∧ (y.length : Int) = k := by
  by_cases h : k < 0
  · refine ⟨[], List.Pairwise.nil, fun y => ⟨fun h1 => (by cases h1), fun h1 => by omega⟩⟩
  · refine ⟨allW n.toNat k.toNat, allW_asc _ _, fun y => ?_⟩
    rw [allW_mem, ← val_nat]
    constructor <;> (rintro ⟨a, b⟩; exact ⟨a, by omega⟩)
theorem bE_lim {n a b : Int} {S : List (List Int)} (h : 16 < n) : bE n a b S = 3 := by unfold bE; rw [if_pos h]
theorem bE_arg {n a b : Int} {S : List (List Int)} (h : n < 1) : bE n a b S = 1 := by unfold bE; rw [if_neg (by omega), if_pos h]
theorem bE_neg {n a b : Int} {S : List (List Int)} (h1 : 1 ≤ n) (h2 : n ≤ 16) (h : a < 0) : bE n a b S = 1 := by unfold bE; rw [if_neg (by omega), if_neg (by omega), if_pos h]
theorem bE_big {n a b : Int} {S : List (List Int)} (h1 : 1 ≤ n) (h2 : n ≤ 16) (h0 : 0 ≤ a) (h : 256 < b) : bE n a b S = 3 := by unfold bE; rw [if_neg (by omega), if_neg (by omega), if_neg (by omega), if_pos h]
theorem bE_in {n a b : Int} {S : List (List Int)} (h1 : 1 ≤ n) (h2 : n ≤ 16) (h0 : 0 ≤ a) (h : b ≤ 256) : bE n a b S = gE 0 S n := by unfold bE; rw [if_neg (by omega), if_neg (by omega), if_neg (by omega), if_neg (by omega)]
theorem total_app (a b : List (List Int)) : M.total (a ++ b) = M.total a + M.total b := by simp [M.total]
theorem total_len {k : Nat} : ∀ {l : List (List Int)}, (∀ x ∈ l, x.length = k) → M.total l = l.length * k
  | [], _ => by simp [M.total]
  | a :: l, h => by
    have h1 := total_len (l := l) fun x hx => h x (by simp [hx])
    have h2 := h a (by simp)
    have e : M.total (a :: l) = a.length + M.total l := by simp [M.total]
    rw [e, h1, h2, List.length_cons, Nat.succ_mul]
    omega
theorem total_allW (n k : Nat) : M.total (allW n k) = n ^ k * k := by rw [total_len (k := k) (fun x hx => (allW_mem.1 hx).2), allW_len]
/-- The law's own counts, before the i-th round: of the words of i-1 symbols, of those of less than i symbols, of their symbols. -/
structure Cnt (n i a m s : Nat) : Prop where
  i1 : 1 ≤ i
  a1 : a = min (n ^ (i - 1)) 100000
  m1 : m = min (ltW n i).length 100000
  s1 : (s = M.total (ltW n i) ∨ (65536 < s ∧ 65536 < M.total (ltW n i))) ∧ s ≤ 10000000
theorem Cnt.start (n : Nat) : Cnt n 1 1 1 0 := ⟨Nat.le_refl _, by simp, by simp [ltW, allW], Or.inl (by simp [ltW, allW, M.total]), by omega⟩
theorem min_mul {x n : Nat} (hn : 1 ≤ n) : min (min x 100000 * n) 100000 = min (x * n) 100000 := by
  rcases Nat.lt_or_ge 100000 x with h | h
  · rw [Nat.min_eq_right (Nat.le_of_lt h)]
    have h1 : 100000 * 1 ≤ 100000 * n := Nat.mul_le_mul_left _ hn
    have h2 : x * 1 ≤ x * n := Nat.mul_le_mul_left _ hn
    omega
  · rw [Nat.min_eq_left h]
theorem Cnt.next {n i a m s p r : Nat} (hn : 1 ≤ n) (h : Cnt n i a m s) (hp : a * n = p) (hr : i * min p 100000 = r) : Cnt n (i + 1) (min p 100000) (min (m + min p 100000) 100000) (min (s + r) 10000000) := by
  obtain ⟨h1, h2, h3, h4, h5⟩ := h
  have e1 : min p 100000 = min (n ^ i) 100000 := by
    rw [← hp, h2, min_mul hn]
    obtain ⟨j, rfl⟩ : ∃ j, i = j + 1 := ⟨i - 1, by omega⟩
    rw [Nat.add_sub_cancel, Nat.pow_succ]
  have e2 : (ltW n (i + 1)).length = (ltW n i).length + n ^ i := by rw [ltW_succ, List.length_append, allW_len]
  have e3 : M.total (ltW n (i + 1)) = M.total (ltW n i) + n ^ i * i := by rw [ltW_succ, total_app, total_allW]
  rw [e1] at hr
  refine ⟨by omega, by rw [e1]; simp, by rw [e1, e2, h3]; omega, ?_, by omega⟩
  rw [e3]
  obtain ⟨c, hc⟩ : ∃ c, n ^ i = c := ⟨_, rfl⟩
  rw [hc] at hr ⊢
  rcases Nat.lt_or_ge 100000 c with hb | hb
  · rw [Nat.min_eq_right (Nat.le_of_lt hb)] at hr
    have g1 : 1 * 100000 ≤ i * 100000 := Nat.mul_le_mul_right _ h1
    have g2 : c * 1 ≤ c * i := Nat.mul_le_mul_left _ h1
    omega
  · rw [Nat.min_eq_left hb, Nat.mul_comm] at hr
    rw [hr]
    omega
/-- What the law's conditions say at the end. -/
theorem Cnt.full {n k a m s : Nat} (h : Cnt n (k + 1) a m s) (hn : 1 ≤ n) (hn2 : n ≤ 16) (hk : k ≤ 256) :
    ((gE 0 (uptoW n k) n = 3 ∧ (4096 < m ∨ (¬ 4096 < m ∧ 65536 < s))) ∨ (gE 0 (uptoW n k) n = 0 ∧ ¬ 4096 < m ∧ ¬ 65536 < s ∧ gE 0 (allW n k) n = 0 ∧ (uptoW n k).length ≤ 4096)) ∧
    ((gE 0 (allW n k) n = 3 ∧ (4096 < a ∨ (¬ 4096 < a ∧ 65536 < k * a))) ∨ (gE 0 (allW n k) n = 0 ∧ ¬ 4096 < a ∧ ¬ 65536 < k * a)) := by
  obtain ⟨_, h2, h3, h4, _⟩ := h
  rw [Nat.add_sub_cancel] at h2
  have eu : ltW n (k + 1) = uptoW n k := rfl
  rw [eu] at h3 h4
  have hu : M.Lv (uptoW n k) n ↔ (uptoW n k).length ≤ 4096 ∧ M.total (uptoW n k) ≤ 65536 := ⟨fun l => ⟨l.len, l.st⟩, fun l => ⟨l.1, by omega, by omega, fun x hx => by
    have := uptoW_mem.1 hx
    exact check_of (by omega) (by omega) this.1 (by omega), uptoW_asc n k, l.2⟩⟩
  have ha : M.Lv (allW n k) n ↔ n ^ k ≤ 4096 ∧ n ^ k * k ≤ 65536 := ⟨fun l => by rw [← allW_len n k, ← total_len (l := allW n k) (fun x hx => (allW_mem.1 hx).2)]; exact ⟨l.len, l.st⟩, fun l => ⟨by rw [allW_len]; exact l.1, by omega, by omega, fun x hx => by
    have := allW_mem.1 hx
    exact check_of (by omega) (by omega) this.1 (by omega), allW_asc n k, by rw [total_allW]; exact l.2⟩⟩
  have hs : (allW n k).length ≤ (uptoW n k).length ∧ M.total (allW n k) ≤ M.total (uptoW n k) := by
    rw [← eu, ltW_succ, List.length_append, total_app]
    omega
  rw [allW_len, total_allW] at hs
  have hm : n ^ k * k ≤ 65536 → n ^ k ≤ 4096 → k * a = n ^ k * k := fun _ h2' => by rw [h2, Nat.min_eq_left (by omega), Nat.mul_comm]
  obtain ⟨c, hc⟩ : ∃ c, n ^ k = c := ⟨_, rfl⟩
  obtain ⟨p, hp⟩ : ∃ p, c * k = p := ⟨_, rfl⟩
  have hka : a ≤ 4096 → k * a = p := fun h => by rw [← hp, Nat.mul_comm, show a = c by omega]
  rw [hc] at ha hs hm h2
  rw [hp] at ha hs hm
  obtain ⟨q, hq⟩ : ∃ q, k * a = q := ⟨_, rfl⟩
  rw [hq] at hka hm ⊢
  constructor
  · by_cases hL : M.Lv (uptoW n k) n
    · refine Or.inr ⟨gE_zero rfl hL, ?_⟩
      have := hu.1 hL
      exact ⟨by omega, by omega, gE_zero rfl (ha.2 ⟨by omega, by omega⟩), by omega⟩
    · refine Or.inl ⟨gE_three rfl hL, ?_⟩
      rw [hu] at hL
      omega
  · by_cases hL : M.Lv (allW n k) n
    · refine Or.inr ⟨gE_zero rfl hL, ?_⟩
      have := ha.1 hL
      omega
    · refine Or.inl ⟨gE_three rfl hL, ?_⟩
      rw [ha] at hL
      by_cases h4 : 4096 < a
      · exact Or.inl h4
      · refine Or.inr ⟨h4, ?_⟩
        rw [hka (by omega)]
        omega
set_option maxRecDepth 100000 in
set_option maxHeartbeats 4000000 in
theorem tup_skip1 (n k : Int) (W : World) (h1 : 1 ≤ n) (h2 : n ≤ 16) (h3 : 8 < k) (h4 : 1 < n) :
    Calls Try.prog 8 #[.int .i64 n, .int .i64 k] W fun e W' => e = .returned (.bool true) ∧ Below W.heap.size W W' := by
  have d0 : decide (1 ≤ n) = true := decide_eq_true (by omega)
  have d1 : decide (n ≤ 16) = true := decide_eq_true (by omega)
  have d2 : decide (8 < k) = true := decide_eq_true (by omega)
  have d3 : decide (1 < n) = true := decide_eq_true (by omega)
  go_enter Try.func8, Try.ntmps8
  go_wp2
  go_ret
  exact ⟨rfl, Below.refl _ _⟩
set_option maxRecDepth 100000 in
set_option maxHeartbeats 4000000 in
theorem tup_skip2 (n k : Int) (W : World) (h1 : n = 1) (h3 : 40 < k) (h4 : k ≤ 300) :
    Calls Try.prog 8 #[.int .i64 n, .int .i64 k] W fun e W' => e = .returned (.bool true) ∧ Below W.heap.size W W' := by
  subst h1
  have h5 : (8 : Int) < k := by omega
  have d0 : decide ((8 : Int) < k) = true := decide_eq_true (by omega)
  have d1 : decide (k ≤ 300) = true := decide_eq_true (by omega)
  have d2 : decide (40 < k) = true := decide_eq_true (by omega)
  go_enter Try.func8, Try.ntmps8
  go_wp2
  go_ret
  exact ⟨rfl, Below.refl _ _⟩
set_option maxRecDepth 100000 in
set_option maxHeartbeats 4000000 in
theorem tup_wrong1 (n k : Int) (W : World) (h1 : 16 < n) :
    Calls Try.prog 8 #[.int .i64 n, .int .i64 k] W fun e W' => e = .returned (.bool true) ∧ Below W.heap.size W W' := by
  obtain ⟨S, hS, hmS⟩ := up_ex n k
  obtain ⟨T, hT, hmT⟩ := ex_ex n k
  have CU := Lib.hid (upto_any n k S W hS hmS 3 (bE_lim h1))
  have CE := Lib.hid (fun w' => exact_any n k T w' hT hmT 3 (bE_lim h1))
  clear hS hmS hT hmT
  have d0 : decide (1 ≤ n) = true := decide_eq_true (by omega)
  have f0 : 1 ≤ n := by omega
  have d1 : decide (n ≤ 16) = false := decide_eq_false (by omega)
  have f1 : ¬ n ≤ 16 := by omega
  have d2 : decide (16 < n) = true := decide_eq_true (by omega)
  have f2 : 16 < n := by omega
  go_enter Try.func8, Try.ntmps8
  go_wp2_with fail
  refine CU.out.mono ?_
  rintro e w1 ⟨A, q, rfl, hq, hx, hb1⟩
  rw [okL_err (by decide)] at hq
  obtain rfl : q = 0 := hq
  have B1 := Lib.hid hb1
  clear hx hb1 CU
  go_wp2_with fail
  refine (CE.out w1).mono ?_
  rintro e w2 ⟨A2, q2, rfl, hq, hx, hb2⟩
  rw [okL_err (by decide)] at hq
  obtain rfl : q2 = 0 := hq
  have B2 := Lib.hid (below_next B1.out hb2)
  clear hx hb2 CE B1
  go_wp2_with fail
  refine (tlives_walk _).mono ?_
  rintro e w7 ⟨rfl, hb7⟩
  have B7 := Lib.hid (below_next B2.out hb7)
  clear hb7
  go_wp2
  go_ret
  exact ⟨rfl, B7.out⟩
set_option maxRecDepth 100000 in
set_option maxHeartbeats 4000000 in
theorem tup_wrong2 (n k : Int) (W : World) (h1 : n < 1) :
    Calls Try.prog 8 #[.int .i64 n, .int .i64 k] W fun e W' => e = .returned (.bool true) ∧ Below W.heap.size W W' := by
  obtain ⟨S, hS, hmS⟩ := up_ex n k
  obtain ⟨T, hT, hmT⟩ := ex_ex n k
  have CU := Lib.hid (upto_any n k S W hS hmS 1 (bE_arg h1))
  have CE := Lib.hid (fun w' => exact_any n k T w' hT hmT 1 (bE_arg h1))
  clear hS hmS hT hmT
  have d0 : decide (1 ≤ n) = false := decide_eq_false (by omega)
  have f0 : ¬ 1 ≤ n := by omega
  have d1 : decide (16 < n) = false := decide_eq_false (by omega)
  have f1 : ¬ 16 < n := by omega
  have d2 : decide (n < 1) = true := decide_eq_true (by omega)
  have f2 : n < 1 := by omega
  go_enter Try.func8, Try.ntmps8
  go_wp2_with fail
  refine CU.out.mono ?_
  rintro e w1 ⟨A, q, rfl, hq, hx, hb1⟩
  rw [okL_err (by decide)] at hq
  obtain rfl : q = 0 := hq
  have B1 := Lib.hid hb1
  clear hx hb1 CU
  go_wp2_with fail
  refine (CE.out w1).mono ?_
  rintro e w2 ⟨A2, q2, rfl, hq, hx, hb2⟩
  rw [okL_err (by decide)] at hq
  obtain rfl : q2 = 0 := hq
  have B2 := Lib.hid (below_next B1.out hb2)
  clear hx hb2 CE B1
  go_wp2_with fail
  refine (tlives_walk _).mono ?_
  rintro e w7 ⟨rfl, hb7⟩
  have B7 := Lib.hid (below_next B2.out hb7)
  clear hb7
  go_wp2
  go_ret
  exact ⟨rfl, B7.out⟩
set_option maxRecDepth 100000 in
set_option maxHeartbeats 4000000 in
theorem tup_wrong3 (n k : Int) (W : World) (h1 : 1 ≤ n) (h2 : n ≤ 16) (h3 : k < 0) :
    Calls Try.prog 8 #[.int .i64 n, .int .i64 k] W fun e W' => e = .returned (.bool true) ∧ Below W.heap.size W W' := by
  obtain ⟨S, hS, hmS⟩ := up_ex n k
  obtain ⟨T, hT, hmT⟩ := ex_ex n k
  have CU := Lib.hid (upto_any n k S W hS hmS 1 (bE_neg h1 h2 (by omega)))
  have CE := Lib.hid (fun w' => exact_any n k T w' hT hmT 1 (bE_neg h1 h2 h3))
  clear hS hmS hT hmT
  have d0 : decide (1 ≤ n) = true := decide_eq_true (by omega)
  have f0 : 1 ≤ n := by omega
  have d1 : decide (n ≤ 16) = true := decide_eq_true (by omega)
  have f1 : n ≤ 16 := by omega
  have d2 : decide (8 < k) = false := decide_eq_false (by omega)
  have f2 : ¬ 8 < k := by omega
  have d3 : decide (16 < n) = false := decide_eq_false (by omega)
  have f3 : ¬ 16 < n := by omega
  have d4 : decide (n < 1) = false := decide_eq_false (by omega)
  have f4 : ¬ n < 1 := by omega
  have d5 : decide (k < 0) = true := decide_eq_true (by omega)
  have f5 : k < 0 := by omega
  go_enter Try.func8, Try.ntmps8
  go_wp2_with fail
  refine CU.out.mono ?_
  rintro e w1 ⟨A, q, rfl, hq, hx, hb1⟩
  rw [okL_err (by decide)] at hq
  obtain rfl : q = 0 := hq
  have B1 := Lib.hid hb1
  clear hx hb1 CU
  go_wp2_with fail
  refine (CE.out w1).mono ?_
  rintro e w2 ⟨A2, q2, rfl, hq, hx, hb2⟩
  rw [okL_err (by decide)] at hq
  obtain rfl : q2 = 0 := hq
  have B2 := Lib.hid (below_next B1.out hb2)
  clear hx hb2 CE B1
  go_wp2_with fail
  refine (tlives_walk _).mono ?_
  rintro e w7 ⟨rfl, hb7⟩
  have B7 := Lib.hid (below_next B2.out hb7)
  clear hb7
  go_wp2
  go_ret
  exact ⟨rfl, B7.out⟩
set_option maxRecDepth 100000 in
set_option maxHeartbeats 4000000 in
theorem tup_wrong4 (n k : Int) (W : World) (h0 : n = 1) (h3 : 300 < k) :
    Calls Try.prog 8 #[.int .i64 n, .int .i64 k] W fun e W' => e = .returned (.bool true) ∧ Below W.heap.size W W' := by
  subst h0
  obtain ⟨S, hS, hmS⟩ := up_ex 1 k
  obtain ⟨T, hT, hmT⟩ := ex_ex 1 k
  have CU := Lib.hid (upto_any 1 k S W hS hmS 3 (bE_big (by omega) (by omega) (by omega) (by omega)))
  have CE := Lib.hid (fun w' => exact_any 1 k T w' hT hmT 3 (bE_big (by omega) (by omega) (by omega) (by omega)))
  clear hS hmS hT hmT
  have d0 : decide (8 < k) = true := decide_eq_true (by omega)
  have f0 : 8 < k := by omega
  have d1 : decide (k ≤ 300) = false := decide_eq_false (by omega)
  have f1 : ¬ k ≤ 300 := by omega
  have d2 : decide (k < 0) = false := decide_eq_false (by omega)
  have f2 : ¬ k < 0 := by omega
  have d3 : decide (256 < k) = true := decide_eq_true (by omega)
  have f3 : 256 < k := by omega
  go_enter Try.func8, Try.ntmps8
  go_wp2_with fail
  refine CU.out.mono ?_
  rintro e w1 ⟨A, q, rfl, hq, hx, hb1⟩
  rw [okL_err (by decide)] at hq
  obtain rfl : q = 0 := hq
  have B1 := Lib.hid hb1
  clear hx hb1 CU
  go_wp2_with fail
  refine (CE.out w1).mono ?_
  rintro e w2 ⟨A2, q2, rfl, hq, hx, hb2⟩
  rw [okL_err (by decide)] at hq
  obtain rfl : q2 = 0 := hq
  have B2 := Lib.hid (below_next B1.out hb2)
  clear hx hb2 CE B1
  go_wp2_with fail
  refine (tlives_walk _).mono ?_
  rintro e w7 ⟨rfl, hb7⟩
  have B7 := Lib.hid (below_next B2.out hb7)
  clear hb7
  go_wp2
  go_ret
  exact ⟨rfl, B7.out⟩
set_option maxRecDepth 100000 in
set_option maxHeartbeats 8000000 in
theorem tup_right1 (n k : Nat) (W : World) (hn1 : 1 ≤ n) (hn2 : n ≤ 16) (hk : k ≤ 8) :
    Calls Try.prog 8 #[.int .i64 n, .int .i64 k] W fun e W' => e = .returned (.bool true) ∧ Below W.heap.size W W' := by
  have hk2 : k ≤ 256 := by omega
  have c0 : (1 : Int) ≤ n := by omega
  have d0 : decide ((1 : Int) ≤ n) = true := decide_eq_true (by omega)
  have c1 : (n : Int) ≤ 16 := by omega
  have d1 : decide ((n : Int) ≤ 16) = true := decide_eq_true (by omega)
  have c2 : ¬ (8 : Int) < k := by omega
  have d2 : decide ((8 : Int) < k) = false := decide_eq_false (by omega)
  have c3 : ¬ (16 : Int) < n := by omega
  have d3 : decide ((16 : Int) < n) = false := decide_eq_false (by omega)
  have c4 : ¬ (n : Int) < 1 := by omega
  have d4 : decide ((n : Int) < 1) = false := decide_eq_false (by omega)
  have c5 : ¬ (k : Int) < 0 := by omega
  have d5 : decide ((k : Int) < 0) = false := decide_eq_false (by omega)
  have c6 : ¬ (256 : Int) < k := by omega
  have d6 : decide ((256 : Int) < k) = false := decide_eq_false (by omega)
  obtain ⟨R, hR⟩ : ∃ R, gE 0 (uptoW n k) ((n : Nat) : Int) = R := ⟨_, rfl⟩
  obtain ⟨R2, hR2⟩ : ∃ R2, gE 0 (allW n k) ((n : Nat) : Int) = R2 := ⟨_, rfl⟩
  have CU := Lib.hid (upto_any n k (uptoW n k) W (uptoW_asc n k) (fun y => by rw [uptoW_mem]; constructor <;> (rintro ⟨a, b⟩; exact ⟨a, by omega⟩)) R (by rw [bE_in (by omega) (by omega) (by omega) (by omega)]; exact hR))
  have CE := Lib.hid (fun w' => exact_any n k (allW n k) w' (allW_asc n k) (fun y => by rw [allW_mem]; constructor <;> (rintro ⟨a, b⟩; exact ⟨a, by omega⟩)) R2 (by rw [bE_in (by omega) (by omega) (by omega) (by omega)]; exact hR2))
  have HF : Hid (∀ a m s, Cnt n (k + 1) a m s → _) := fun a m s h => Cnt.full h hn1 hn2 hk2
  rw [hR, hR2] at HF
  clear hR hR2
  go_enter Try.func8, Try.ntmps8
  go_wp2_with fail
  refine CU.out.mono ?_
  rintro e w1 ⟨A, q, rfl, hq, hx, hb1⟩
  have HQ := Lib.hid hq
  have HX := Lib.hid hx
  have B1 := Lib.hid hb1
  clear hx hb1 CU hq
  go_wp2_with fail
  refine (CE.out w1).mono ?_
  rintro e w2 ⟨A2, q2, rfl, hq, hx, hb2⟩
  have HQ2 := Lib.hid hq
  have HX2 := Lib.hid hx
  have HX1 := Lib.hid (HX.out.below hb2)
  have B2 := Lib.hid (below_next B1.out hb2)
  clear hx hb2 CE B1 HX hq
  go_wp2
  go_loopw [10, 11, 12, 13] (fun u v x y wr => ∃ i a m s : Nat, i ≤ k + 1 ∧ u = .int .i64 a ∧ v = .int .i64 m ∧ x = .int .i64 s ∧ y = .int .i64 i ∧ Hid (Cnt n i a m s) ∧ wr = w2) (fun _ _ _ y _ => k + 1 - (intOf y).toNat)
  case atStart => exact ⟨1, 1, 1, 0, by omega, rfl, rfl, rfl, rfl, Cnt.start n, rfl⟩
  case round =>
    obtain ⟨i, a, m, s, hi, rfl, rfl, rfl, rfl, hC, rfl⟩ := hrel
    by_cases hlt : i ≤ k
    · have hli : (i : Int) ≤ k := by omega
      have d9 : decide ((i : Int) ≤ k) = true := decide_eq_true hli
      obtain ⟨p, hp⟩ : ∃ p, a * n = p := ⟨_, rfl⟩
      obtain ⟨a1, ha1⟩ : ∃ a1, min p 100000 = a1 := ⟨_, rfl⟩
      obtain ⟨r, hr⟩ : ∃ r, i * a1 = r := ⟨_, rfl⟩
      have HN := Lib.hid (hC.out.next (r := r) hn1 hp (by rw [ha1]; exact hr))
      rw [ha1] at HN
      have ha2 : a ≤ 100000 := by rw [hC.out.a1]; exact Nat.min_le_right _ _
      have hm2 : m ≤ 100000 := by rw [hC.out.m1]; exact Nat.min_le_right _ _
      have hs2 : s ≤ 10000000 := hC.out.s1.2
      have hp2 : p ≤ 100000 * 16 := by rw [← hp]; exact Nat.mul_le_mul ha2 hn2
      have ha3 : a1 ≤ 100000 := by rw [← ha1]; exact Nat.min_le_right _ _
      have hr2 : r ≤ 300 * 100000 := by rw [← hr]; exact Nat.mul_le_mul (by omega) ha3
      have hw1 : IntKind.i64.wrap ((a : Int) * n) = p := by rw [← hp, Int.natCast_mul]; exact IntWalk.i64_in _ (by rw [← Int.natCast_mul, hp]; omega)
      have hm1 : min (p : Int) 100000 = a1 := by omega
      obtain ⟨x1, hx1⟩ : ∃ x1, m + a1 = x1 := ⟨_, rfl⟩
      have hw2 : IntKind.i64.wrap ((m : Int) + a1) = x1 := by rw [show (m : Int) + a1 = x1 by omega]; exact IntWalk.i64_in _ (by omega)
      obtain ⟨m1, hm1'⟩ : ∃ m1, min x1 100000 = m1 := ⟨_, rfl⟩
      have hm3 : min (x1 : Int) 100000 = m1 := by omega
      have hw3 : IntKind.i64.wrap ((i : Int) * a1) = r := by rw [← hr, Int.natCast_mul]; exact IntWalk.i64_in _ (by rw [← Int.natCast_mul, hr]; omega)
      obtain ⟨x2, hx2⟩ : ∃ x2, s + r = x2 := ⟨_, rfl⟩
      have hw4 : IntKind.i64.wrap ((s : Int) + r) = x2 := by rw [show (s : Int) + r = x2 by omega]; exact IntWalk.i64_in _ (by omega)
      obtain ⟨s1, hs1'⟩ : ∃ s1, min x2 10000000 = s1 := ⟨_, rfl⟩
      have hm4 : min (x2 : Int) 10000000 = s1 := by omega
      rw [hx1, hm1', hx2, hs1'] at HN
      clear hp ha1 hr ha2 hm2 hs2 hp2 ha3 hr2 hx1 hm1' hx2 hs1' hC
      go_wp2
      go_roundw
      case rel => exact ⟨i + 1, a1, m1, s1, by omega, rfl, rfl, rfl, by go_num, HN, trivial⟩
      case measure => simp [intOf]; omega
    · have hli : ¬ (i : Int) ≤ k := by omega
      have d9 : decide ((i : Int) ≤ k) = false := decide_eq_false hli
      obtain rfl : i = k + 1 := by omega
      obtain ⟨h5, h6⟩ := HF.out a m s hC.out
      have ha2 : a ≤ 100000 := by rw [hC.out.a1]; exact Nat.min_le_right _ _
      obtain ⟨x3, hx3⟩ : ∃ x3, k * a = x3 := ⟨_, rfl⟩
      have hr2 : x3 ≤ 300 * 100000 := by rw [← hx3]; exact Nat.mul_le_mul (by omega) ha2
      have hw5 : IntKind.i64.wrap ((k : Int) * a) = x3 := by rw [← hx3, Int.natCast_mul]; exact IntWalk.i64_in _ (by rw [← Int.natCast_mul, hx3]; omega)
      rw [hx3] at h6
      clear hx3 hr2 ha2 HF hC
      rcases h5 with ⟨rfl, h5⟩ | ⟨rfl, h5, h7, h8, h9⟩
      · have hq := HQ.out
        rw [okL_err (by decide)] at hq
        obtain rfl : q = 0 := hq
        clear HQ
        rcases h5 with h5 | ⟨h5, h7⟩ <;> rcases h6 with ⟨rfl, h6 | ⟨h6, h8⟩⟩ | ⟨rfl, h6, h8⟩
        · have k1 : decide ((4096 : Int) < m) = true := decide_eq_true (by omega)
          have ek1 : (4096 : Int) < m := by omega
          have k3 : decide ((4096 : Int) < a) = true := decide_eq_true (by omega)
          have ek3 : (4096 : Int) < a := by omega
          have hq := HQ2.out
          rw [okL_err (by decide)] at hq
          obtain rfl : q2 = 0 := hq
          clear HQ2 HX1 HX2
          go_wp2_with fail
          refine (tlives_walk _).mono ?_
          rintro e w7 ⟨rfl, hb7⟩
          have B7 := Lib.hid (below_next B2.out hb7)
          clear hb7
          go_wp2
          go_ret
          exact ⟨rfl, B7.out⟩
        · have k1 : decide ((4096 : Int) < m) = true := decide_eq_true (by omega)
          have ek1 : (4096 : Int) < m := by omega
          have k3 : decide ((4096 : Int) < a) = false := decide_eq_false (by omega)
          have ek3 : ¬ (4096 : Int) < a := by omega
          have k4 : decide ((65536 : Int) < x3) = true := decide_eq_true (by omega)
          have ek4 : (65536 : Int) < x3 := by omega
          have hq := HQ2.out
          rw [okL_err (by decide)] at hq
          obtain rfl : q2 = 0 := hq
          clear HQ2 HX1 HX2
          go_wp2_with fail
          refine (tlives_walk _).mono ?_
          rintro e w7 ⟨rfl, hb7⟩
          have B7 := Lib.hid (below_next B2.out hb7)
          clear hb7
          go_wp2
          go_ret
          exact ⟨rfl, B7.out⟩
        · have k1 : decide ((4096 : Int) < m) = true := decide_eq_true (by omega)
          have ek1 : (4096 : Int) < m := by omega
          have k3 : decide ((4096 : Int) < a) = false := decide_eq_false (by omega)
          have ek3 : ¬ (4096 : Int) < a := by omega
          have k4 : decide ((65536 : Int) < x3) = false := decide_eq_false (by omega)
          have ek4 : ¬ (65536 : Int) < x3 := by omega
          clear HQ2 HX1 HX2
          go_wp2_with fail
          refine (tlives_walk _).mono ?_
          rintro e w7 ⟨rfl, hb7⟩
          have B7 := Lib.hid (below_next B2.out hb7)
          clear hb7
          go_wp2
          go_ret
          exact ⟨rfl, B7.out⟩
        · have k1 : decide ((4096 : Int) < m) = false := decide_eq_false (by omega)
          have ek1 : ¬ (4096 : Int) < m := by omega
          have k2 : decide ((65536 : Int) < s) = true := decide_eq_true (by omega)
          have ek2 : (65536 : Int) < s := by omega
          have k3 : decide ((4096 : Int) < a) = true := decide_eq_true (by omega)
          have ek3 : (4096 : Int) < a := by omega
          have hq := HQ2.out
          rw [okL_err (by decide)] at hq
          obtain rfl : q2 = 0 := hq
          clear HQ2 HX1 HX2
          go_wp2_with fail
          refine (tlives_walk _).mono ?_
          rintro e w7 ⟨rfl, hb7⟩
          have B7 := Lib.hid (below_next B2.out hb7)
          clear hb7
          go_wp2
          go_ret
          exact ⟨rfl, B7.out⟩
        · have k1 : decide ((4096 : Int) < m) = false := decide_eq_false (by omega)
          have ek1 : ¬ (4096 : Int) < m := by omega
          have k2 : decide ((65536 : Int) < s) = true := decide_eq_true (by omega)
          have ek2 : (65536 : Int) < s := by omega
          have k3 : decide ((4096 : Int) < a) = false := decide_eq_false (by omega)
          have ek3 : ¬ (4096 : Int) < a := by omega
          have k4 : decide ((65536 : Int) < x3) = true := decide_eq_true (by omega)
          have ek4 : (65536 : Int) < x3 := by omega
          have hq := HQ2.out
          rw [okL_err (by decide)] at hq
          obtain rfl : q2 = 0 := hq
          clear HQ2 HX1 HX2
          go_wp2_with fail
          refine (tlives_walk _).mono ?_
          rintro e w7 ⟨rfl, hb7⟩
          have B7 := Lib.hid (below_next B2.out hb7)
          clear hb7
          go_wp2
          go_ret
          exact ⟨rfl, B7.out⟩
        · have k1 : decide ((4096 : Int) < m) = false := decide_eq_false (by omega)
          have ek1 : ¬ (4096 : Int) < m := by omega
          have k2 : decide ((65536 : Int) < s) = true := decide_eq_true (by omega)
          have ek2 : (65536 : Int) < s := by omega
          have k3 : decide ((4096 : Int) < a) = false := decide_eq_false (by omega)
          have ek3 : ¬ (4096 : Int) < a := by omega
          have k4 : decide ((65536 : Int) < x3) = false := decide_eq_false (by omega)
          have ek4 : ¬ (65536 : Int) < x3 := by omega
          clear HQ2 HX1 HX2
          go_wp2_with fail
          refine (tlives_walk _).mono ?_
          rintro e w7 ⟨rfl, hb7⟩
          have B7 := Lib.hid (below_next B2.out hb7)
          clear hb7
          go_wp2
          go_ret
          exact ⟨rfl, B7.out⟩
      · subst h8
        rcases h6 with ⟨h6, _⟩ | ⟨_, h6, h8⟩
        · cases h6
        · have hq := HQ.out
          rw [okL_ok] at hq
          have hq2 := HQ2.out
          rw [okL_ok] at hq2
          have HX := HX1
          have HXX := HX2
          rw [okL_ok] at HX HXX
          have HQA := Lib.hid hq
          have HQB := Lib.hid hq2
          have HL := Lib.hid h9
          clear HQ HQ2 HX1 HX2 hq hq2 h9
          have k1 : decide ((4096 : Int) < m) = false := decide_eq_false (by omega)
          have ek1 : ¬ (4096 : Int) < m := by omega
          have k2 : decide ((65536 : Int) < s) = false := decide_eq_false (by omega)
          have ek2 : ¬ (65536 : Int) < s := by omega
          have k3 : decide ((4096 : Int) < a) = false := decide_eq_false (by omega)
          have ek3 : ¬ (4096 : Int) < a := by omega
          have k4 : decide ((65536 : Int) < x3) = false := decide_eq_false (by omega)
          have ek4 : ¬ (65536 : Int) < x3 := by omega
          go_wp2_with fail
          refine (vupto_any n k _ hn2 (by omega) (by have := HL.out; omega)).mono ?_
          rintro e w3 ⟨v, rfl, hO, hb3⟩
          obtain ⟨A3, c3, rfl, _, _⟩ := hO.owl.form
          have hO2 := hO.owl.rds
          rw [← HQA.out]
          have HO := Lib.hid hO2
          have HX3 := Lib.hid (HX.out.below hb3)
          have HXX3 := Lib.hid (HXX.out.below hb3)
          have B3 := Lib.hid (below_next B2.out hb3)
          clear hO hO2 hb3
          go_wp2_with fail
          refine (same_yes A A3 q c3 (uptoW n k) w3 HX3.out HO.out HQA.out.symm (by rw [HQA.out]; have := HL.out; omega) (fun x hx => by have := (uptoW_mem.1 hx).2; omega)).mono ?_
          rintro e w4 ⟨rfl, hb4⟩
          have HXX4 := Lib.hid (HXX3.out.below hb4)
          have B4 := Lib.hid (below_next B3.out hb4)
          clear hb4
          go_wp2_with fail
          refine (vexact2_any n k _ hn2 (by omega) (fun j hj => by
            have h1 := ltW_le n (i := j + 1) (j := k + 1) (by omega)
            rw [ltW_succ, List.length_append] at h1
            have h2 : (ltW n (k + 1)).length ≤ 4096 := HL.out
            omega)).mono ?_
          rintro e w5 ⟨v, B5, rfl, _, hO, hb5⟩
          obtain ⟨A5, c5, rfl, _, _⟩ := hO.owl.form
          have hO2 := hO.owl.rds
          rw [← HQB.out]
          have HO5 := Lib.hid hO2
          have HXX5 := Lib.hid (HXX4.out.below hb5)
          have B5' := Lib.hid (below_next B4.out hb5)
          have hq2b : q2 ≤ 1000000 := by
            rw [HQB.out]
            have h1 := ltW_succ n k
            have h2 : (ltW n (k + 1)).length ≤ 4096 := HL.out
            rw [h1, List.length_append] at h2
            omega
          clear hO hO2 hb5
          go_wp2_with fail
          refine (same_yes A2 A5 q2 c5 (allW n k) w5 HXX5.out HO5.out HQB.out.symm hq2b (fun x hx => by have := (allW_mem.1 hx).2; omega)).mono ?_
          rintro e w6 ⟨rfl, hb6⟩
          have B6 := Lib.hid (below_next B5'.out hb6)
          clear hb6
          go_wp2_with fail
          refine (tlives_walk _).mono ?_
          rintro e w7 ⟨rfl, hb7⟩
          have B7 := Lib.hid (below_next B6.out hb7)
          clear hb7
          go_wp2
          go_ret
          exact ⟨rfl, B7.out⟩
set_option maxRecDepth 100000 in
set_option maxHeartbeats 8000000 in
theorem tup_right2 (k : Nat) (W : World) (hk0 : 8 < k) (hk : k ≤ 40) :
    Calls Try.prog 8 #[.int .i64 1, .int .i64 k] W fun e W' => e = .returned (.bool true) ∧ Below W.heap.size W W' := by
  have hk2 : k ≤ 256 := by omega
  have hn1 : 1 ≤ 1 := by omega
  have hn2 : 1 ≤ 16 := by omega
  have c0 : (8 : Int) < k := by omega
  have d0 : decide ((8 : Int) < k) = true := decide_eq_true (by omega)
  have c1 : (k : Int) ≤ 300 := by omega
  have d1 : decide ((k : Int) ≤ 300) = true := decide_eq_true (by omega)
  have c2 : ¬ (40 : Int) < k := by omega
  have d2 : decide ((40 : Int) < k) = false := decide_eq_false (by omega)
  have c3 : ¬ (k : Int) < 0 := by omega
  have d3 : decide ((k : Int) < 0) = false := decide_eq_false (by omega)
  have c4 : ¬ (256 : Int) < k := by omega
  have d4 : decide ((256 : Int) < k) = false := decide_eq_false (by omega)
  obtain ⟨R, hR⟩ : ∃ R, gE 0 (uptoW 1 k) ((1 : Nat) : Int) = R := ⟨_, rfl⟩
  obtain ⟨R2, hR2⟩ : ∃ R2, gE 0 (allW 1 k) ((1 : Nat) : Int) = R2 := ⟨_, rfl⟩
  have CU := Lib.hid (upto_any 1 k (uptoW 1 k) W (uptoW_asc 1 k) (fun y => by rw [uptoW_mem]; constructor <;> (rintro ⟨a, b⟩; exact ⟨a, by omega⟩)) R (by rw [bE_in (by omega) (by omega) (by omega) (by omega)]; exact hR))
  have CE := Lib.hid (fun w' => exact_any 1 k (allW 1 k) w' (allW_asc 1 k) (fun y => by rw [allW_mem]; constructor <;> (rintro ⟨a, b⟩; exact ⟨a, by omega⟩)) R2 (by rw [bE_in (by omega) (by omega) (by omega) (by omega)]; exact hR2))
  have HF : Hid (∀ a m s, Cnt 1 (k + 1) a m s → _) := fun a m s h => Cnt.full h hn1 hn2 hk2
  rw [hR, hR2] at HF
  clear hR hR2
  go_enter Try.func8, Try.ntmps8
  go_wp2_with fail
  refine CU.out.mono ?_
  rintro e w1 ⟨A, q, rfl, hq, hx, hb1⟩
  have HQ := Lib.hid hq
  have HX := Lib.hid hx
  have B1 := Lib.hid hb1
  clear hx hb1 CU hq
  go_wp2_with fail
  refine (CE.out w1).mono ?_
  rintro e w2 ⟨A2, q2, rfl, hq, hx, hb2⟩
  have HQ2 := Lib.hid hq
  have HX2 := Lib.hid hx
  have HX1 := Lib.hid (HX.out.below hb2)
  have B2 := Lib.hid (below_next B1.out hb2)
  clear hx hb2 CE B1 HX hq
  go_wp2
  go_loopw [10, 11, 12, 13] (fun u v x y wr => ∃ i a m s : Nat, i ≤ k + 1 ∧ u = .int .i64 a ∧ v = .int .i64 m ∧ x = .int .i64 s ∧ y = .int .i64 i ∧ Hid (Cnt 1 i a m s) ∧ wr = w2) (fun _ _ _ y _ => k + 1 - (intOf y).toNat)
  case atStart => exact ⟨1, 1, 1, 0, by omega, rfl, rfl, rfl, rfl, Cnt.start 1, rfl⟩
  case round =>
    obtain ⟨i, a, m, s, hi, rfl, rfl, rfl, rfl, hC, rfl⟩ := hrel
    by_cases hlt : i ≤ k
    · have hli : (i : Int) ≤ k := by omega
      have d9 : decide ((i : Int) ≤ k) = true := decide_eq_true hli
      obtain ⟨p, hp⟩ : ∃ p, a * 1 = p := ⟨_, rfl⟩
      obtain ⟨a1, ha1⟩ : ∃ a1, min p 100000 = a1 := ⟨_, rfl⟩
      obtain ⟨r, hr⟩ : ∃ r, i * a1 = r := ⟨_, rfl⟩
      have HN := Lib.hid (hC.out.next (r := r) hn1 hp (by rw [ha1]; exact hr))
      rw [ha1] at HN
      have ha2 : a ≤ 100000 := by rw [hC.out.a1]; exact Nat.min_le_right _ _
      have hm2 : m ≤ 100000 := by rw [hC.out.m1]; exact Nat.min_le_right _ _
      have hs2 : s ≤ 10000000 := hC.out.s1.2
      have hp2 : p ≤ 100000 * 16 := by rw [← hp]; exact Nat.mul_le_mul ha2 hn2
      have ha3 : a1 ≤ 100000 := by rw [← ha1]; exact Nat.min_le_right _ _
      have hr2 : r ≤ 300 * 100000 := by rw [← hr]; exact Nat.mul_le_mul (by omega) ha3
      obtain rfl : a = p := by omega
      have hw1 : IntKind.i64.wrap (a : Int) = a := IntWalk.i64_in _ (by omega)
      have hm1 : min (a : Int) 100000 = a1 := by omega
      obtain ⟨x1, hx1⟩ : ∃ x1, m + a1 = x1 := ⟨_, rfl⟩
      have hw2 : IntKind.i64.wrap ((m : Int) + a1) = x1 := by rw [show (m : Int) + a1 = x1 by omega]; exact IntWalk.i64_in _ (by omega)
      obtain ⟨m1, hm1'⟩ : ∃ m1, min x1 100000 = m1 := ⟨_, rfl⟩
      have hm3 : min (x1 : Int) 100000 = m1 := by omega
      have hw3 : IntKind.i64.wrap ((i : Int) * a1) = r := by rw [← hr, Int.natCast_mul]; exact IntWalk.i64_in _ (by rw [← Int.natCast_mul, hr]; omega)
      obtain ⟨x2, hx2⟩ : ∃ x2, s + r = x2 := ⟨_, rfl⟩
      have hw4 : IntKind.i64.wrap ((s : Int) + r) = x2 := by rw [show (s : Int) + r = x2 by omega]; exact IntWalk.i64_in _ (by omega)
      obtain ⟨s1, hs1'⟩ : ∃ s1, min x2 10000000 = s1 := ⟨_, rfl⟩
      have hm4 : min (x2 : Int) 10000000 = s1 := by omega
      rw [hx1, hm1', hx2, hs1'] at HN
      clear hp ha1 hr ha2 hm2 hs2 hp2 ha3 hr2 hx1 hm1' hx2 hs1' hC
      go_wp2
      go_roundw
      case rel => exact ⟨i + 1, a1, m1, s1, by omega, rfl, rfl, rfl, by go_num, HN, trivial⟩
      case measure => simp [intOf]; omega
    · have hli : ¬ (i : Int) ≤ k := by omega
      have d9 : decide ((i : Int) ≤ k) = false := decide_eq_false hli
      obtain rfl : i = k + 1 := by omega
      obtain ⟨h5, h6⟩ := HF.out a m s hC.out
      have ha2 : a ≤ 100000 := by rw [hC.out.a1]; exact Nat.min_le_right _ _
      obtain ⟨x3, hx3⟩ : ∃ x3, k * a = x3 := ⟨_, rfl⟩
      have hr2 : x3 ≤ 300 * 100000 := by rw [← hx3]; exact Nat.mul_le_mul (by omega) ha2
      have hw5 : IntKind.i64.wrap ((k : Int) * a) = x3 := by rw [← hx3, Int.natCast_mul]; exact IntWalk.i64_in _ (by rw [← Int.natCast_mul, hx3]; omega)
      rw [hx3] at h6
      clear hx3 hr2 ha2 HF hC
      rcases h5 with ⟨rfl, h5⟩ | ⟨rfl, h5, h7, h8, h9⟩
      · have hq := HQ.out
        rw [okL_err (by decide)] at hq
        obtain rfl : q = 0 := hq
        clear HQ
        rcases h5 with h5 | ⟨h5, h7⟩ <;> rcases h6 with ⟨rfl, h6 | ⟨h6, h8⟩⟩ | ⟨rfl, h6, h8⟩
        · have k1 : decide ((4096 : Int) < m) = true := decide_eq_true (by omega)
          have ek1 : (4096 : Int) < m := by omega
          have k3 : decide ((4096 : Int) < a) = true := decide_eq_true (by omega)
          have ek3 : (4096 : Int) < a := by omega
          have hq := HQ2.out
          rw [okL_err (by decide)] at hq
          obtain rfl : q2 = 0 := hq
          clear HQ2 HX1 HX2
          go_wp2_with fail
          refine (tlives_walk _).mono ?_
          rintro e w7 ⟨rfl, hb7⟩
          have B7 := Lib.hid (below_next B2.out hb7)
          clear hb7
          go_wp2
          go_ret
          exact ⟨rfl, B7.out⟩
        · have k1 : decide ((4096 : Int) < m) = true := decide_eq_true (by omega)
          have ek1 : (4096 : Int) < m := by omega
          have k3 : decide ((4096 : Int) < a) = false := decide_eq_false (by omega)
          have ek3 : ¬ (4096 : Int) < a := by omega
          have k4 : decide ((65536 : Int) < x3) = true := decide_eq_true (by omega)
          have ek4 : (65536 : Int) < x3 := by omega
          have hq := HQ2.out
          rw [okL_err (by decide)] at hq
          obtain rfl : q2 = 0 := hq
          clear HQ2 HX1 HX2
          go_wp2_with fail
          refine (tlives_walk _).mono ?_
          rintro e w7 ⟨rfl, hb7⟩
          have B7 := Lib.hid (below_next B2.out hb7)
          clear hb7
          go_wp2
          go_ret
          exact ⟨rfl, B7.out⟩
        · have k1 : decide ((4096 : Int) < m) = true := decide_eq_true (by omega)
          have ek1 : (4096 : Int) < m := by omega
          have k3 : decide ((4096 : Int) < a) = false := decide_eq_false (by omega)
          have ek3 : ¬ (4096 : Int) < a := by omega
          have k4 : decide ((65536 : Int) < x3) = false := decide_eq_false (by omega)
          have ek4 : ¬ (65536 : Int) < x3 := by omega
          clear HQ2 HX1 HX2
          go_wp2_with fail
          refine (tlives_walk _).mono ?_
          rintro e w7 ⟨rfl, hb7⟩
          have B7 := Lib.hid (below_next B2.out hb7)
          clear hb7
          go_wp2
          go_ret
          exact ⟨rfl, B7.out⟩
        · have k1 : decide ((4096 : Int) < m) = false := decide_eq_false (by omega)
          have ek1 : ¬ (4096 : Int) < m := by omega
          have k2 : decide ((65536 : Int) < s) = true := decide_eq_true (by omega)
          have ek2 : (65536 : Int) < s := by omega
          have k3 : decide ((4096 : Int) < a) = true := decide_eq_true (by omega)
          have ek3 : (4096 : Int) < a := by omega
          have hq := HQ2.out
          rw [okL_err (by decide)] at hq
          obtain rfl : q2 = 0 := hq
          clear HQ2 HX1 HX2
          go_wp2_with fail
          refine (tlives_walk _).mono ?_
          rintro e w7 ⟨rfl, hb7⟩
          have B7 := Lib.hid (below_next B2.out hb7)
          clear hb7
          go_wp2
          go_ret
          exact ⟨rfl, B7.out⟩
        · have k1 : decide ((4096 : Int) < m) = false := decide_eq_false (by omega)
          have ek1 : ¬ (4096 : Int) < m := by omega
          have k2 : decide ((65536 : Int) < s) = true := decide_eq_true (by omega)
          have ek2 : (65536 : Int) < s := by omega
          have k3 : decide ((4096 : Int) < a) = false := decide_eq_false (by omega)
          have ek3 : ¬ (4096 : Int) < a := by omega
          have k4 : decide ((65536 : Int) < x3) = true := decide_eq_true (by omega)
          have ek4 : (65536 : Int) < x3 := by omega
          have hq := HQ2.out
          rw [okL_err (by decide)] at hq
          obtain rfl : q2 = 0 := hq
          clear HQ2 HX1 HX2
          go_wp2_with fail
          refine (tlives_walk _).mono ?_
          rintro e w7 ⟨rfl, hb7⟩
          have B7 := Lib.hid (below_next B2.out hb7)
          clear hb7
          go_wp2
          go_ret
          exact ⟨rfl, B7.out⟩
        · have k1 : decide ((4096 : Int) < m) = false := decide_eq_false (by omega)
          have ek1 : ¬ (4096 : Int) < m := by omega
          have k2 : decide ((65536 : Int) < s) = true := decide_eq_true (by omega)
          have ek2 : (65536 : Int) < s := by omega
          have k3 : decide ((4096 : Int) < a) = false := decide_eq_false (by omega)
          have ek3 : ¬ (4096 : Int) < a := by omega
          have k4 : decide ((65536 : Int) < x3) = false := decide_eq_false (by omega)
          have ek4 : ¬ (65536 : Int) < x3 := by omega
          clear HQ2 HX1 HX2
          go_wp2_with fail
          refine (tlives_walk _).mono ?_
          rintro e w7 ⟨rfl, hb7⟩
          have B7 := Lib.hid (below_next B2.out hb7)
          clear hb7
          go_wp2
          go_ret
          exact ⟨rfl, B7.out⟩
      · subst h8
        rcases h6 with ⟨h6, _⟩ | ⟨_, h6, h8⟩
        · cases h6
        · have hq := HQ.out
          rw [okL_ok] at hq
          have hq2 := HQ2.out
          rw [okL_ok] at hq2
          have HX := HX1
          have HXX := HX2
          rw [okL_ok] at HX HXX
          have HQA := Lib.hid hq
          have HQB := Lib.hid hq2
          have HL := Lib.hid h9
          clear HQ HQ2 HX1 HX2 hq hq2 h9
          have k1 : decide ((4096 : Int) < m) = false := decide_eq_false (by omega)
          have ek1 : ¬ (4096 : Int) < m := by omega
          have k2 : decide ((65536 : Int) < s) = false := decide_eq_false (by omega)
          have ek2 : ¬ (65536 : Int) < s := by omega
          have k3 : decide ((4096 : Int) < a) = false := decide_eq_false (by omega)
          have ek3 : ¬ (4096 : Int) < a := by omega
          have k4 : decide ((65536 : Int) < x3) = false := decide_eq_false (by omega)
          have ek4 : ¬ (65536 : Int) < x3 := by omega
          go_wp2_with fail
          refine (vupto_any 1 k _ hn2 (by omega) (by have := HL.out; omega)).mono ?_
          rintro e w3 ⟨v, rfl, hO, hb3⟩
          obtain ⟨A3, c3, rfl, _, _⟩ := hO.owl.form
          have hO2 := hO.owl.rds
          rw [← HQA.out]
          have HO := Lib.hid hO2
          have HX3 := Lib.hid (HX.out.below hb3)
          have HXX3 := Lib.hid (HXX.out.below hb3)
          have B3 := Lib.hid (below_next B2.out hb3)
          clear hO hO2 hb3
          go_wp2_with fail
          refine (same_yes A A3 q c3 (uptoW 1 k) w3 HX3.out HO.out HQA.out.symm (by rw [HQA.out]; have := HL.out; omega) (fun x hx => by have := (uptoW_mem.1 hx).2; omega)).mono ?_
          rintro e w4 ⟨rfl, hb4⟩
          have HXX4 := Lib.hid (HXX3.out.below hb4)
          have B4 := Lib.hid (below_next B3.out hb4)
          clear hb4
          go_wp2_with fail
          refine (vexact2_any 1 k _ hn2 (by omega) (fun j hj => by
            have h1 := ltW_le 1 (i := j + 1) (j := k + 1) (by omega)
            rw [ltW_succ, List.length_append] at h1
            have h2 : (ltW 1 (k + 1)).length ≤ 4096 := HL.out
            omega)).mono ?_
          rintro e w5 ⟨v, B5, rfl, _, hO, hb5⟩
          obtain ⟨A5, c5, rfl, _, _⟩ := hO.owl.form
          have hO2 := hO.owl.rds
          rw [← HQB.out]
          have HO5 := Lib.hid hO2
          have HXX5 := Lib.hid (HXX4.out.below hb5)
          have B5' := Lib.hid (below_next B4.out hb5)
          have hq2b : q2 ≤ 1000000 := by
            rw [HQB.out]
            have h1 := ltW_succ 1 k
            have h2 : (ltW 1 (k + 1)).length ≤ 4096 := HL.out
            rw [h1, List.length_append] at h2
            omega
          clear hO hO2 hb5
          go_wp2_with fail
          refine (same_yes A2 A5 q2 c5 (allW 1 k) w5 HXX5.out HO5.out HQB.out.symm hq2b (fun x hx => by have := (allW_mem.1 hx).2; omega)).mono ?_
          rintro e w6 ⟨rfl, hb6⟩
          have B6 := Lib.hid (below_next B5'.out hb6)
          clear hb6
          go_wp2_with fail
          refine (tlives_walk _).mono ?_
          rintro e w7 ⟨rfl, hb7⟩
          have B7 := Lib.hid (below_next B6.out hb7)
          clear hb7
          go_wp2
          go_ret
          exact ⟨rfl, B7.out⟩
theorem tupto_walk (n k : Int) (W : World) :
    Calls Try.prog 8 #[.int .i64 n, .int .i64 k] W fun e W' => e = .returned (.bool true) ∧ Below W.heap.size W W' := by
  by_cases h1 : 16 < n
  · exact tup_wrong1 n k W h1
  by_cases h2 : n < 1
  · exact tup_wrong2 n k W h2
  by_cases h3 : k < 0
  · exact tup_wrong3 n k W (by omega) (by omega) h3
  by_cases h4 : k ≤ 8
  · obtain ⟨n0, rfl⟩ := Int.eq_ofNat_of_zero_le (a := n) (by omega)
    obtain ⟨k0, rfl⟩ := Int.eq_ofNat_of_zero_le (a := k) (by omega)
    exact tup_right1 n0 k0 W (by omega) (by omega) (by omega)
  by_cases h5 : 1 < n
  · exact tup_skip1 n k W (by omega) (by omega) (by omega) h5
  obtain rfl : n = 1 := by omega
  by_cases h6 : 300 < k
  · exact tup_wrong4 1 k W rfl h6
  by_cases h7 : 40 < k
  · exact tup_skip2 1 k W rfl h7 (by omega)
  obtain ⟨k0, rfl⟩ := Int.eq_ofNat_of_zero_le (a := k) (by omega)
  exact tup_right2 k0 W (by omega) (by omega)
end Go.Proofs.Ytjodhihcckcefaa
