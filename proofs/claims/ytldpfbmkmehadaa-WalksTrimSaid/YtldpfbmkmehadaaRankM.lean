/-
  The plain mathematics of ranks and of the next word: lists of ints, no program. No statement is proved here.
-/
import Derived.Test.YtldpfbmkmehadaaMath
namespace Go.Proofs.Ytldpfbmkmehadaa.M

/-- The rank that is reached from r behind the symbols of zs. -/
def rkF (n : Int) (r : Int) (zs : List Int) : Int := zs.foldl (fun r z => r * n + (z + 1)) r
/-- The rank of a word. -/
def rk (n : Int) (zs : List Int) : Int := rkF n 0 zs
/-- A list of symbols. -/
def Val (n : Int) (zs : List Int) : Prop := ∀ z ∈ zs, 0 ≤ z ∧ z < n

theorem rkF_nil (n r : Int) : rkF n r [] = r := rfl
theorem rkF_cons (n r z : Int) (zs : List Int) : rkF n r (z :: zs) = rkF n (r * n + (z + 1)) zs := rfl
theorem rkF_app (n r : Int) (x y : List Int) : rkF n r (x ++ y) = rkF n (rkF n r x) y := by simp [rkF, List.foldl_append]
theorem rk_nil (n : Int) : rk n [] = 0 := rfl
theorem rk_snoc (n z : Int) (zs : List Int) : rk n (zs ++ [z]) = rk n zs * n + (z + 1) := by simp [rk, rkF_app, rkF_cons, rkF_nil]
theorem Val.cons {n z : Int} {zs : List Int} (h : Val n (z :: zs)) : (0 ≤ z ∧ z < n) ∧ Val n zs := ⟨h z (by simp), fun y hy => h y (by simp [hy])⟩
theorem Val.app {n : Int} {x y : List Int} (h : Val n (x ++ y)) : Val n x ∧ Val n y := ⟨fun z hz => h z (by simp [hz]), fun z hz => h z (by simp [hz])⟩
theorem Val.mk_app {n : Int} {x y : List Int} (h : Val n x) (k : Val n y) : Val n (x ++ y) := fun z hz => by
  rcases List.mem_append.1 hz with h1 | h1
  · exact h z h1
  · exact k z h1
theorem Val.one {n z : Int} (h : 0 ≤ z ∧ z < n) : Val n [z] := fun y hy => by
  rw [List.mem_singleton] at hy
  subst hy
  exact h
theorem Val.take {n : Int} {zs : List Int} (h : Val n zs) (k : Nat) : Val n (zs.take k) := fun z hz => h z (List.mem_of_mem_take hz)
theorem Val.at_ {n : Int} {zs : List Int} (h : Val n zs) {k : Nat} (hk : k < zs.length) : 0 ≤ zs[k]?.getD 0 ∧ zs[k]?.getD 0 < n := by
  rw [List.getElem?_eq_getElem hk]
  exact h _ (List.getElem_mem hk)

theorem rkF_ge {n : Int} (hn : 1 ≤ n) {zs : List Int} (hv : Val n zs) : ∀ {r : Int}, 0 ≤ r → r + zs.length ≤ rkF n r zs := by
  induction zs with
  | nil => intro r _; simp [rkF_nil]
  | cons z zs ih =>
    intro r hr
    obtain ⟨hz, hv'⟩ := hv.cons
    have h1 : r * 1 ≤ r * n := Int.mul_le_mul_of_nonneg_left hn hr
    have := ih hv' (r := r * n + (z + 1)) (by omega)
    rw [rkF_cons]
    simp only [List.length_cons]
    omega
theorem rk_ge {n : Int} (hn : 1 ≤ n) {zs : List Int} (hv : Val n zs) : (zs.length : Int) ≤ rk n zs := by
  have := rkF_ge hn hv (r := 0) (by omega)
  unfold rk
  omega
theorem rk_take_le {n : Int} (hn : 1 ≤ n) {zs : List Int} (hv : Val n zs) (k : Nat) : rk n (zs.take k) ≤ rk n zs := by
  have hx : zs = zs.take k ++ zs.drop k := (List.take_append_drop k zs).symm
  have hv2 : Val n (zs.take k) ∧ Val n (zs.drop k) := Val.app (by rw [← hx]; exact hv)
  have h0 := rk_ge hn hv2.1
  have h1 := rkF_ge hn hv2.2 (r := rk n (zs.take k)) (by omega)
  have h2 : rk n zs = rkF n (rk n (zs.take k)) (zs.drop k) := by
    show rkF n 0 zs = rkF n (rkF n 0 (zs.take k)) (zs.drop k)
    rw [← rkF_app, ← hx]
  omega

theorem rkF_lt {n : Int} (hn : 1 ≤ n) {x y : List Int} (hl : x.length = y.length) (hx : Val n x) (hy : Val n y) : ∀ {r s : Int}, r < s → rkF n r x < rkF n s y := by
  induction x generalizing y with
  | nil =>
    intro r s h
    have : y = [] := List.eq_nil_of_length_eq_zero (by simpa using hl.symm)
    subst this
    exact h
  | cons a x ih =>
    intro r s h
    cases y with
    | nil => simp at hl
    | cons b y =>
      obtain ⟨ha, hx'⟩ := hx.cons
      obtain ⟨hb, hy'⟩ := hy.cons
      rw [rkF_cons, rkF_cons]
      refine ih (by simpa using hl) hx' hy' ?_
      have h1 : (r + 1) * n ≤ s * n := Int.mul_le_mul_of_nonneg_right (by omega) (by omega)
      rw [Int.add_mul] at h1
      omega
theorem rkF_lex {n : Int} (hn : 1 ≤ n) {x y : List Int} (hl : x.length = y.length) (hx : Val n x) (hy : Val n y) : ∀ {r : Int}, lex x y = -1 → rkF n r x < rkF n r y := by
  induction x generalizing y with
  | nil => intro r h; simp [lex] at h
  | cons a x ih =>
    intro r h
    cases y with
    | nil => simp at hl
    | cons b y =>
      obtain ⟨ha, hx'⟩ := hx.cons
      obtain ⟨hb, hy'⟩ := hy.cons
      rw [rkF_cons, rkF_cons]
      simp only [lex] at h
      by_cases h1 : a < b
      · exact rkF_lt hn (by simpa using hl) hx' hy' (by omega)
      · rw [if_neg h1] at h
        by_cases h2 : b < a
        · rw [if_pos h2] at h; simp at h
        · rw [if_neg h2] at h
          have : a = b := by omega
          subst this
          exact ih (by simpa using hl) hx' hy' h
theorem rk_short {n : Int} (hn : 1 ≤ n) {x y : List Int} (hl : x.length < y.length) (hx : Val n x) (hy : Val n y) : rk n x < rk n y := by
  have hs : y = y.take (y.length - x.length) ++ y.drop (y.length - x.length) := (List.take_append_drop _ y).symm
  have hv2 : Val n (y.take (y.length - x.length)) ∧ Val n (y.drop (y.length - x.length)) := Val.app (by rw [← hs]; exact hy)
  have h0 := rk_ge hn hv2.1
  have h3 : 0 < (y.take (y.length - x.length)).length := by rw [List.length_take]; omega
  have h2 : rk n y = rkF n (rk n (y.take (y.length - x.length))) (y.drop (y.length - x.length)) := by
    show rkF n 0 y = rkF n (rkF n 0 _) _
    rw [← rkF_app, ← hs]
  rw [h2]
  exact rkF_lt hn (by rw [List.length_drop]; omega) hx hv2.2 (by omega)
theorem lex_swap {x y : List Int} (h : lex x y = 1) : lex y x = -1 := by
  induction x generalizing y with
  | nil => simp [lex] at h
  | cons a x ih =>
    cases y with
    | nil => simp [lex] at h
    | cons b y =>
      simp only [lex] at h ⊢
      by_cases h1 : a < b
      · rw [if_pos h1] at h; simp at h
      · rw [if_neg h1] at h
        by_cases h2 : b < a
        · rw [if_pos h2]
        · rw [if_neg h2] at h
          rw [if_neg h2, if_neg h1]
          exact ih h
theorem lex_swap' {x y : List Int} (h : lex x y = -1) : lex y x = 1 := by
  induction x generalizing y with
  | nil => simp [lex] at h
  | cons a x ih =>
    cases y with
    | nil => simp [lex] at h
    | cons b y =>
      simp only [lex] at h ⊢
      by_cases h1 : a < b
      · have : ¬ b < a := by omega
        rw [if_neg this, if_pos h1]
      · rw [if_neg h1] at h
        by_cases h2 : b < a
        · rw [if_pos h2] at h; simp at h
        · rw [if_neg h2] at h
          rw [if_neg h2, if_neg h1]
          exact ih h
/-- The order of words is that of their ranks. -/
theorem rk_cmp {n : Int} (hn : 1 ≤ n) {x y : List Int} (hx : Val n x) (hy : Val n y) : cmp x y = sgn (rk n x) (rk n y) := by
  unfold cmp
  by_cases h1 : x.length < y.length
  · rw [if_pos h1, sgn_lt (rk_short hn h1 hx hy)]
  · rw [if_neg h1]
    by_cases h2 : y.length < x.length
    · rw [if_pos h2, sgn_gt (rk_short hn h2 hy hx)]
    · rw [if_neg h2]
      rcases lex_range x y with h | h | h
      · rw [h, sgn_lt (show rk n x < rk n y from rkF_lex hn (by omega) hx hy h)]
      · rw [h, sgn_eq (by rw [(lex_zero_iff (by omega)).1 h])]
      · rw [h, sgn_gt (show rk n y < rk n x from rkF_lex hn (by omega) hy hx (lex_swap h))]

/-! ### The next word -/
def succR (n : Int) : List Int → List Int
  | [] => [0]
  | z :: t => if z < n - 1 then (z + 1) :: t else 0 :: succR n t
/-- The next list. -/
def next (n : Int) (zs : List Int) : List Int := (succR n zs.reverse).reverse
theorem next_nil (n : Int) : next n [] = [0] := rfl
theorem next_up {n z : Int} {p : List Int} (h : z < n - 1) : next n (p ++ [z]) = p ++ [z + 1] := by simp [next, succR, h]
theorem next_over {n z : Int} {p : List Int} (h : ¬ z < n - 1) : next n (p ++ [z]) = next n p ++ [0] := by simp [next, succR, h]
theorem next_val {n : Int} (hn : 1 ≤ n) : ∀ (k : Nat) (zs : List Int), zs.length = k → Val n zs → Val n (next n zs) ∧ rk n (next n zs) = rk n zs + 1 ∧ zs.length ≤ (next n zs).length ∧ (next n zs).length ≤ zs.length + 1 := by
  intro k
  induction k with
  | zero =>
    intro zs hl _
    have : zs = [] := List.eq_nil_of_length_eq_zero hl
    subst this
    rw [next_nil]
    exact ⟨Val.one (by omega), by simp [rk, rkF], by simp, by simp⟩
  | succ k ih =>
    intro zs hl hv
    rcases List.eq_nil_or_concat zs with rfl | ⟨p, z, rfl⟩
    · simp at hl
    · rw [List.concat_eq_append] at hv hl ⊢
      obtain ⟨hp, hz⟩ := hv.app
      have hz := hz z (by simp)
      obtain ⟨h1, h2, h3, h4⟩ := ih p (by simpa using hl) hp
      by_cases h : z < n - 1
      · rw [next_up h]
        exact ⟨hp.mk_app (Val.one (by omega)), by rw [rk_snoc, rk_snoc]; omega, by simp, by simp⟩
      · rw [next_over h]
        refine ⟨h1.mk_app (Val.one (by omega)), ?_, by simp; omega, by simp; omega⟩
        rw [rk_snoc, rk_snoc, h2, Int.add_mul]
        omega
theorem check_zero {zs : List Int} {n : Int} (h : check zs n = 0) : n ≤ 16 ∧ 1 ≤ n ∧ zs.length ≤ 256 ∧ Val n zs := by
  unfold check at h
  by_cases h1 : 16 < n ∨ 256 < zs.length
  · rw [if_pos h1] at h; omega
  · rw [if_neg h1] at h
    by_cases h2 : n < 1
    · rw [if_pos h2] at h; omega
    · rw [if_neg h2] at h
      refine ⟨by omega, by omega, by omega, fun z hz => ?_⟩
      cases hb : badB n z
      · exact badB_false (by simp [hb])
      · have : zs.any (badB n) = true := List.any_eq_true.2 ⟨z, hz, hb⟩
        simp [badI, this] at h
theorem check_mk {zs : List Int} {n : Int} (h1 : n ≤ 16) (h2 : 1 ≤ n) (h3 : zs.length ≤ 256) (hv : Val n zs) : check zs n = 0 := by
  rw [check_in h1 h3 h2]
  apply badI_clean
  rw [List.any_eq_false]
  intro z hz
  have := hv z hz
  simp [badB]
  omega

/-! ### Every rank has a word -/
theorem exists_word {n : Int} (hn : 2 ≤ n) : ∀ (L : Nat) (r : Int), 0 ≤ r → r < 2 ^ L → ∃ zs, Val n zs ∧ rk n zs = r ∧ zs.length ≤ L := by
  intro L
  induction L with
  | zero => intro r h0 h1; exact ⟨[], fun _ h => by simp at h, by simp [rk_nil]; omega, by simp⟩
  | succ L ih =>
    intro r h0 h1
    by_cases hr : r = 0
    · exact ⟨[], fun _ h => by simp at h, by simp [rk_nil, hr], by simp⟩
    · have hp : (0 : Int) ≤ 2 ^ L := Int.pow_nonneg (by omega)
      have hm : (2 : Int) ^ L * 2 ≤ 2 ^ L * n := Int.mul_le_mul_of_nonneg_left hn hp
      obtain ⟨zs, hv, hk, hl⟩ := ih ((r - 1) / n) (Int.ediv_nonneg (by omega) (by omega)) (by
        have : (2 : Int) ^ (L + 1) = 2 ^ L * 2 := by rw [Int.pow_succ]
        exact Int.ediv_lt_of_lt_mul (by omega) (by omega))
      refine ⟨zs ++ [(r - 1) % n], hv.mk_app (Val.one ⟨Int.emod_nonneg _ (by omega), Int.emod_lt_of_pos _ (by omega)⟩), ?_, by simp; omega⟩
      rw [rk_snoc, hk]
      have := Int.emod_add_mul_ediv (r - 1) n
      rw [Int.mul_comm] at this
      omega
theorem exists_word_one : ∀ (L : Nat), ∃ zs, Val 1 zs ∧ rk 1 zs = L ∧ zs.length = L := by
  intro L
  induction L with
  | zero => exact ⟨[], fun _ h => by simp at h, rfl, rfl⟩
  | succ L ih =>
    obtain ⟨zs, hv, hk, hl⟩ := ih
    exact ⟨zs ++ [0], hv.mk_app (Val.one (by omega)), by rw [rk_snoc, hk]; omega, by simp [hl]⟩

/-! ### The reference's rank -/
def rrF (n : Int) (zs : List Int) : Nat → Int
  | 0 => 0
  | k + 1 => rrF n zs k + (n ^ k + (zs[k]?.getD 0) * n ^ (zs.length - 1 - k))
theorem rrF_step (n z : Int) (zs : List Int) : ∀ k, k ≤ zs.length → rrF n (zs ++ [z]) k = n * rrF n zs k + 1 - n ^ k := by
  intro k
  induction k with
  | zero => intro _; simp [rrF]
  | succ k ih =>
    intro hk
    have e1 : (zs ++ [z])[k]? = zs[k]? := List.getElem?_append_left (by omega)
    have e2 : (zs ++ [z]).length - 1 - k = (zs.length - 1 - k) + 1 := by simp; omega
    simp only [rrF]
    rw [ih (by omega), e1, e2, Int.pow_succ, Int.pow_succ]
    grind
theorem rrF_rk (n : Int) : ∀ (k : Nat) (zs : List Int), zs.length = k → rrF n zs zs.length = rk n zs := by
  intro k
  induction k with
  | zero =>
    intro zs hl
    have : zs = [] := List.eq_nil_of_length_eq_zero hl
    subst this
    rfl
  | succ k ih =>
    intro zs hl
    rcases List.eq_nil_or_concat zs with rfl | ⟨p, z, rfl⟩
    · simp at hl
    · rw [List.concat_eq_append] at hl ⊢
      have hp := ih p (by simpa using hl)
      have e0 : (p ++ [z]).length = p.length + 1 := by simp
      have e1 : (p ++ [z])[p.length]? = some z := by simp
      rw [rk_snoc, ← hp, e0]
      simp only [rrF]
      rw [rrF_step n z p p.length (Nat.le_refl _), e1, e0, show p.length + 1 - 1 - p.length = 0 by omega]
      simp
      grind
theorem pow_bounds {n : Int} (h1 : 1 ≤ n) (h2 : n ≤ 6) : ∀ k : Nat, 1 ≤ n ^ k ∧ n ^ k ≤ 6 ^ k := by
  intro k
  induction k with
  | zero => simp
  | succ k ih =>
    rw [Int.pow_succ, Int.pow_succ]
    have a : 1 * 1 ≤ n ^ k * n := Int.mul_le_mul ih.1 h1 (by omega) (by omega)
    have b : n ^ k * n ≤ 6 ^ k * 6 := Int.mul_le_mul ih.2 h2 (by omega) (by omega)
    exact ⟨by omega, b⟩
/-! ### The state of following behind k rounds -/
def Fol (n : Int) (zs : List Int) (k : Nat) (cur : List Int) : Prop := cur = zs.take (zs.length - k) ++ List.replicate k 0 ∧ next n zs = next n (zs.take (zs.length - k)) ++ List.replicate k 0
theorem Fol.start (n : Int) (zs : List Int) : Fol n zs 0 zs := by simp [Fol]
theorem Fol.len {n : Int} {zs cur : List Int} {k : Nat} (h : Fol n zs k cur) (hk : k ≤ zs.length) : cur.length = zs.length := by
  rw [h.1]
  simp
  omega
theorem Fol.split {n : Int} {zs cur : List Int} {k : Nat} (h : Fol n zs k cur) (hk : k < zs.length) : ∃ p z, p.length = zs.length - 1 - k ∧ p = zs.take (zs.length - (k + 1)) ∧ cur = p ++ z :: List.replicate k 0 ∧ next n zs = next n (p ++ [z]) ++ List.replicate k 0 ∧ cur[zs.length - 1 - k]?.getD 0 = z := by
  have e : zs.take (zs.length - k) = zs.take (zs.length - (k + 1)) ++ [zs[zs.length - (k + 1)]?.getD 0] := by
    rw [show zs.length - k = (zs.length - (k + 1)) + 1 by omega, List.take_add_one, List.getElem?_eq_getElem (by omega)]
    rfl
  have hl : (zs.take (zs.length - (k + 1))).length = zs.length - 1 - k := by rw [List.length_take]; omega
  refine ⟨_, zs[zs.length - (k + 1)]?.getD 0, hl, rfl, by rw [h.1, e]; simp, by rw [h.2, e], ?_⟩
  rw [h.1, e, ← hl]
  simp
theorem Fol.val {n : Int} {zs cur : List Int} {k : Nat} {z : Int} (h : Fol n zs k cur) (hk : k < zs.length) (hz : cur[zs.length - 1 - k]?.getD 0 = z) (hv : Val n zs) : 0 ≤ z ∧ z < n := by
  have e : cur[zs.length - 1 - k]? = zs[zs.length - 1 - k]? := by
    rw [h.1, List.getElem?_append_left (by rw [List.length_take]; omega), List.getElem?_take, if_pos (by omega)]
  rw [← hz, e]
  exact hv.at_ (by omega)
theorem set_mid (p q : List Int) (z v : Int) : (p ++ z :: q).set p.length v = p ++ v :: q := by simp
theorem Fol.up {n : Int} {zs cur : List Int} {k : Nat} {z : Int} (h : Fol n zs k cur) (hk : k < zs.length) (hz : cur[zs.length - 1 - k]?.getD 0 = z) (hlt : z < n - 1) : next n zs = cur.set (zs.length - 1 - k) (z + 1) := by
  obtain ⟨p, y, hp, _, hc, hn, hy⟩ := h.split hk
  obtain rfl : z = y := by rw [← hz, hy]
  rw [hn, next_up hlt, hc, ← hp, set_mid]
  simp
theorem Fol.over {n : Int} {zs cur : List Int} {k : Nat} {z : Int} (h : Fol n zs k cur) (hk : k < zs.length) (hz : cur[zs.length - 1 - k]?.getD 0 = z) (hlt : ¬ z < n - 1) : Fol n zs (k + 1) (cur.set (zs.length - 1 - k) 0) := by
  obtain ⟨p, y, hp, hp2, hc, hn, hy⟩ := h.split hk
  obtain rfl : z = y := by rw [← hz, hy]
  refine ⟨?_, ?_⟩
  · rw [hc, ← hp, set_mid, ← hp2, List.replicate_succ]
  · rw [hn, next_over hlt, ← hp2, List.replicate_succ]
    simp
theorem Fol.done {n : Int} {zs cur : List Int} (h : Fol n zs zs.length cur) : next n zs = List.replicate (zs.length + 1) 0 := by
  rw [h.2]
  simp [next_nil, List.replicate_succ]
/-! ### The states of At -/
theorem rk_peel {n : Int} {zs : List Int} (h1 : 1 ≤ n) (hv : Val n zs) {j : Nat} (hj : j < zs.length) : ∃ z, zs[zs.length - 1 - j]?.getD 0 = z ∧ 0 ≤ z ∧ z < n ∧ 1 ≤ rk n (zs.take (zs.length - j)) ∧ (rk n (zs.take (zs.length - j)) - 1) / n = rk n (zs.take (zs.length - (j + 1))) ∧ (rk n (zs.take (zs.length - j)) - 1) % n = z ∧ 0 ≤ rk n (zs.take (zs.length - (j + 1))) ∧ zs.take (zs.length - j) = zs.take (zs.length - (j + 1)) ++ [z] := by
  have e : zs.take (zs.length - j) = zs.take (zs.length - (j + 1)) ++ [zs[zs.length - (j + 1)]?.getD 0] := by
    rw [show zs.length - j = (zs.length - (j + 1)) + 1 by omega, List.take_add_one, List.getElem?_eq_getElem (by omega)]
    rfl
  have hz := hv.at_ (k := zs.length - (j + 1)) (by omega)
  have h0 := rk_ge h1 (hv.take (zs.length - (j + 1)))
  have hm : 0 ≤ rk n (zs.take (zs.length - (j + 1))) * n := Int.mul_nonneg (by omega) (by omega)
  refine ⟨zs[zs.length - (j + 1)]?.getD 0, by rw [show zs.length - (j + 1) = zs.length - 1 - j by omega], hz.1, hz.2, ?_, ?_, ?_, by omega, e⟩
  · rw [e, rk_snoc]; omega
  · rw [e, rk_snoc, show rk n (zs.take (zs.length - (j + 1))) * n + (zs[zs.length - (j + 1)]?.getD 0 + 1) - 1 = zs[zs.length - (j + 1)]?.getD 0 + rk n (zs.take (zs.length - (j + 1))) * n by omega, Int.add_mul_ediv_right _ _ (by omega), Int.ediv_eq_zero_of_lt hz.1 hz.2]
    omega
  · rw [e, rk_snoc, show rk n (zs.take (zs.length - (j + 1))) * n + (zs[zs.length - (j + 1)]?.getD 0 + 1) - 1 = zs[zs.length - (j + 1)]?.getD 0 + rk n (zs.take (zs.length - (j + 1))) * n by omega, Int.add_mul_emod_self_right, Int.emod_eq_of_lt hz.1 hz.2]
def Ats (zs : List Int) (j : Nat) (cur : List Int) : Prop := cur = List.replicate (zs.length - j) 0 ++ zs.drop (zs.length - j)
theorem Ats.start (zs : List Int) : Ats zs 0 (List.replicate zs.length 0) := by simp [Ats]
theorem Ats.len {zs cur : List Int} {j : Nat} (h : Ats zs j cur) : cur.length = zs.length := by
  rw [h]
  simp
theorem Ats.step {zs cur : List Int} {j : Nat} {z : Int} (h : Ats zs j cur) (hj : j < zs.length) (hz : zs[zs.length - 1 - j]?.getD 0 = z) : Ats zs (j + 1) (cur.set (zs.length - 1 - j) z) := by
  unfold Ats at h ⊢
  have e1 : List.replicate (zs.length - j) (0 : Int) = List.replicate (zs.length - 1 - j) 0 ++ [0] := by
    rw [show zs.length - j = (zs.length - 1 - j) + 1 by omega, List.replicate_succ']
  have e2 : zs.drop (zs.length - (j + 1)) = z :: zs.drop (zs.length - j) := by
    rw [List.getElem?_eq_getElem (by omega)] at hz
    rw [show zs.length - (j + 1) = zs.length - 1 - j by omega, List.drop_eq_getElem_cons (by omega), show zs.length - 1 - j + 1 = zs.length - j by omega]
    simp only [Option.getD_some] at hz
    rw [hz]
  have hs : ∀ (p q : List Int) (y v : Int) (m : Nat), p.length = m → (p ++ y :: q).set m v = p ++ v :: q := fun p q y v m hm => by subst hm; simp
  rw [h, e1, e2, List.append_assoc, List.singleton_append, hs _ _ _ _ _ (by simp), show zs.length - (j + 1) = zs.length - 1 - j by omega]
theorem Ats.done {zs cur : List Int} (h : Ats zs zs.length cur) : cur = zs := by
  rw [h]
  simp
/-- A power. -/
def pw (n : Int) (k : Nat) : Int := n ^ k
theorem pw_succ {n : Int} {k : Nat} : pw n (k + 1) = pw n k * n := Int.pow_succ n k
theorem pow6 {k : Nat} (h : k ≤ 12) : (6 : Int) ^ k ≤ 2176782336 := by
  have hh : ∀ j : Fin 13, (6 : Int) ^ j.val ≤ 2176782336 := by decide
  exact hh ⟨k, by omega⟩
theorem pw_bound {n : Int} (h1 : 1 ≤ n) (h2 : n ≤ 6) {k : Nat} (hk : k ≤ 12) : 1 ≤ pw n k ∧ pw n k ≤ 2176782336 := by
  have := pow_bounds h1 h2 k
  have h6 := pow6 hk
  unfold pw
  omega
theorem rrF_pw {n : Int} {zs : List Int} {k : Nat} : rrF n zs (k + 1) = rrF n zs k + (pw n k + (zs[k]?.getD 0) * pw n (zs.length - 1 - k)) := rfl
theorem rrF_bound {n : Int} (h1 : 1 ≤ n) (h2 : n ≤ 6) {zs : List Int} (hl : zs.length ≤ 12) (hv : Val n zs) : ∀ k : Nat, k ≤ zs.length → 0 ≤ rrF n zs k ∧ rrF n zs k ≤ k * 15237476352 := by
  intro k
  induction k with
  | zero => intro _; simp [rrF]
  | succ k ih =>
    intro hk
    obtain ⟨a, b⟩ := ih (by omega)
    have p1 := pw_bound h1 h2 (k := k) (by omega)
    have p2 := pw_bound h1 h2 (k := zs.length - 1 - k) (by omega)
    obtain ⟨z0, z1⟩ := hv.at_ (k := k) (by omega)
    have m0 : 0 ≤ zs[k]?.getD 0 * pw n (zs.length - 1 - k) := Int.mul_nonneg z0 (by omega)
    have m1 : zs[k]?.getD 0 * pw n (zs.length - 1 - k) ≤ 6 * 2176782336 := Int.mul_le_mul (by omega) p2.2 (by omega) (by omega)
    rw [rrF_pw]
    omega
/-- What Rank hands back. -/
def rankV (n : Int) (zs : List Int) : Int := if rk n zs ≤ 4611686018427387903 then rk n zs else 0
def rankE (n : Int) (zs : List Int) : Int := if rk n zs ≤ 4611686018427387903 then 0 else 3
theorem rankV_ok {n : Int} {zs : List Int} (h : rk n zs ≤ 4611686018427387903) : rankV n zs = rk n zs ∧ rankE n zs = 0 := by simp [rankV, rankE, h]
theorem rankV_no {n : Int} {zs : List Int} (h : ¬ rk n zs ≤ 4611686018427387903) : rankV n zs = 0 ∧ rankE n zs = 3 := by simp [rankV, rankE, h]
end Go.Proofs.Ytldpfbmkmehadaa.M
