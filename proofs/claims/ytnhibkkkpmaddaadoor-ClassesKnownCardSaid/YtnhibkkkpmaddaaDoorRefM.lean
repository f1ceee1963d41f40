/-
  The plain mathematics of the reference's loops: lists of ints, no program. No statement is proved here.
-/
import Derived.Test.YtnhibkkkpmaddaaDoorCloM
namespace Go.Proofs.YtnhibkkkpmaddaaDoor.M

/-- What the reference's Of has found among the first k places for place i. -/
def bk (l : List Int) (i k : Nat) : Int := if gz l i ∈ l.take k then nu (l.take i) (gz l i) else -1
theorem bk_zero (l : List Int) (i : Nat) : bk l i 0 = -1 := by simp [bk]
theorem bk_hit {l : List Int} {i k : Nat} (hk : k < i) (hi : i < l.length) (h : gz l k = gz l i) : bk l i (k + 1) = gz (ofL (l.take i)) k := by
  have h1 : gz l i ∈ l.take (k + 1) := (mem_take (by omega)).2 ⟨k, by omega, h⟩
  rw [bk, if_pos h1, ofL_gz (by rw [List.length_take]; omega), gz_take hk, h]
theorem bk_miss {l : List Int} {i k : Nat} (hk : k < i) (hi : i < l.length) (h : ¬ gz l k = gz l i) : bk l i (k + 1) = bk l i k := by
  have h1 : gz l i ∈ l.take (k + 1) ↔ gz l i ∈ l.take k := by
    rw [mem_take (by omega), mem_take (by omega)]
    constructor
    · rintro ⟨j, hj, e⟩
      have : j ≠ k := by intro e2; subst e2; exact h e
      exact ⟨j, by omega, e⟩
    · rintro ⟨j, hj, e⟩
      exact ⟨j, by omega, e⟩
  unfold bk
  by_cases h2 : gz l i ∈ l.take k
  · rw [if_pos h2, if_pos (h1.2 h2)]
  · rw [if_neg h2, if_neg (fun h3 => h2 (h1.1 h3))]
theorem bk_range (l : List Int) (i k : Nat) : -1 ≤ bk l i k := by unfold bk; split <;> omega
theorem bk_new {l : List Int} {i : Nat} (hi : i < l.length) (h : bk l i i < 0) : ofL (l.take (i + 1)) = ofL (l.take i) ++ [(cnt (l.take i) : Int)] ∧ cnt (l.take (i + 1)) = cnt (l.take i) + 1 := by
  have h1 : ¬ gz l i ∈ l.take i := by
    intro h1
    rw [bk, if_pos h1] at h
    omega
  rw [take_gz hi, ofL_snoc, nu_new h1, cnt_new h1]
  exact ⟨rfl, rfl⟩
theorem bk_old {l : List Int} {i : Nat} (hi : i < l.length) (h : ¬ bk l i i < 0) : ofL (l.take (i + 1)) = ofL (l.take i) ++ [bk l i i] ∧ cnt (l.take (i + 1)) = cnt (l.take i) := by
  have h1 : gz l i ∈ l.take i := by
    apply Classical.byContradiction
    intro h1
    rw [bk, if_neg h1] at h
    omega
  rw [take_gz hi, ofL_snoc, nu_old h1, cnt_old h1, bk, if_pos h1]
  exact ⟨rfl, rfl⟩
theorem cnt_take_le (l : List Int) (k : Nat) : cnt (l.take k) ≤ k := by
  have := cnt_le (l.take k)
  rw [List.length_take] at this
  omega

/-- The reference's Check: the least place with the same number. -/
def Lst (p : List Int) (i j least : Nat) : Prop := least ≤ i ∧ gz p least = gz p i ∧ ∀ m, j ≤ m → m < least → ¬ gz p m = gz p i
theorem Lst.start (p : List Int) (i : Nat) : Lst p i i i := ⟨Nat.le_refl _, rfl, fun m h1 h2 => absurd h2 (by omega)⟩
theorem Lst.hit {p : List Int} {i j : Nat} (hj : j < i) (h : gz p j = gz p i) : Lst p i j j := ⟨by omega, h, fun m h1 h2 => absurd h2 (by omega)⟩
theorem Lst.miss {p : List Int} {i j least : Nat} (h : Lst p i (j + 1) least) (h1 : ¬ gz p j = gz p i) : Lst p i j least := ⟨h.1, h.2.1, fun m hm hm2 => by
  rcases Nat.lt_or_ge j m with h3 | h3
  · exact h.2.2 m (by omega) hm2
  · have : m = j := by omega
    subst this; exact h1⟩
theorem Lst.fin {p : List Int} {i least : Nat} (h : Lst p i 0 least) (hi : i < p.length) : (cnt (p.take least) : Int) = gz (ofL p) i := by
  obtain ⟨h1, h2, h3⟩ := h
  have hn : ¬ gz p least ∈ p.take least := by
    intro hm
    obtain ⟨m, hm, e⟩ := (mem_take (by omega)).1 hm
    exact h3 m (Nat.zero_le _) hm (by rw [e, h2])
  have e1 : gz (ofL p) i = gz (ofL p) least := by rw [ofL_gz hi, ofL_gz (by omega), h2]
  rw [e1, ofL_at (by omega), take_gz (by omega), nu_new hn]
/-- 1 if no number of the first m is that at k. -/
def fst (p : List Int) (k m : Nat) : Int := if gz p k ∈ p.take m then 0 else 1
theorem fst_zero (p : List Int) (k : Nat) : fst p k 0 = 1 := by simp [fst]
theorem fst_hit {p : List Int} {k m : Nat} (hm : m < p.length) (h : gz p m = gz p k) : fst p k (m + 1) = 0 := by
  rw [fst, if_pos ((mem_take (by omega)).2 ⟨m, by omega, h⟩)]
theorem fst_miss {p : List Int} {k m : Nat} (hm : m < p.length) (h : ¬ gz p m = gz p k) : fst p k (m + 1) = fst p k m := by
  have h1 : gz p k ∈ p.take (m + 1) ↔ gz p k ∈ p.take m := by
    rw [mem_take (by omega), mem_take (by omega)]
    constructor
    · rintro ⟨j, hj, e⟩
      have : j ≠ m := by intro e2; subst e2; exact h e
      exact ⟨j, by omega, e⟩
    · rintro ⟨j, hj, e⟩
      exact ⟨j, by omega, e⟩
  unfold fst
  by_cases h2 : gz p k ∈ p.take m
  · rw [if_pos h2, if_pos (h1.2 h2)]
  · rw [if_neg h2, if_neg (fun h3 => h2 (h1.1 h3))]
theorem fst_range (p : List Int) (k m : Nat) : 0 ≤ fst p k m ∧ fst p k m ≤ 1 := by unfold fst; split <;> omega
theorem fst_cnt {p : List Int} {k : Nat} (hk : k < p.length) : (cnt (p.take (k + 1)) : Int) = cnt (p.take k) + fst p k k := by
  rw [take_gz hk]
  unfold fst
  by_cases h : gz p k ∈ p.take k
  · rw [cnt_old h, if_pos h]; omega
  · rw [cnt_new h, if_neg h]; omega
theorem vd_all {p : List Int} (h : ∀ i, i < p.length → gz p i = gz (ofL p) i) : Vd p := (ext_gz (ofL_len p).symm h).symm
theorem vd_not {p : List Int} {i : Nat} (h : ¬ gz p i = gz (ofL p) i) : ¬ Vd p := fun h1 => h (by rw [h1])
/-- The reference's Count. -/
theorem count_up {p : List Int} (h : Vd p) {k : Nat} (hk : k < p.length) (h1 : (cnt (p.take k) : Int) ≤ gz p k) : (cnt (p.take (k + 1)) : Int) = gz p k + 1 := by
  have h2 := h.take (k + 1)
  rw [take_gz hk] at h2 ⊢
  obtain ⟨_, h4⟩ := (vd_step (h.take k)).1 h2
  rw [(h.take k).cnt_next (by omega)]
  omega
theorem count_same {p : List Int} (h : Vd p) {k : Nat} (hk : k < p.length) (h1 : ¬ (cnt (p.take k) : Int) ≤ gz p k) : cnt (p.take (k + 1)) = cnt (p.take k) := by
  have h2 := h.take (k + 1)
  rw [take_gz hk] at h2 ⊢
  obtain ⟨h3, h4⟩ := (vd_step (h.take k)).1 h2
  rw [(h.take k).cnt_same h3 (by omega)]
/-- The program's Count: what is accepted. -/
theorem cnt_bad {p : List Int} {k : Nat} (hk : k < p.length) (hv : Vd (p.take k)) (h : gz p k < 0 ∨ (cnt (p.take k) : Int) < gz p k) : ¬ Vd p := by
  refine not_vd hk fun h1 => ?_
  rw [take_gz hk] at h1
  have := (vd_step hv).1 h1
  omega
theorem cnt_good {p : List Int} {k : Nat} (hk : k < p.length) (hv : Vd (p.take k)) (h1 : 0 ≤ gz p k) (h2 : gz p k ≤ cnt (p.take k)) : Vd (p.take (k + 1)) := by
  rw [take_gz hk]
  exact (vd_step hv).2 ⟨h1, h2⟩
/-- Finer, by program and reference. -/
def bad (p q : List Int) (i k : Nat) : Prop := gz p i = gz p k ∧ ¬ gz q i = gz q k
def Fi (p q : List Int) (i : Nat) : Prop := ∀ a b, a < i → b < a → ¬ bad p q a b
def Fk (p q : List Int) (i k : Nat) : Prop := ∀ b, b < k → ¬ bad p q i b
theorem Fi.start (p q : List Int) : Fi p q 0 := fun a b h => absurd h (by omega)
theorem Fk.start (p q : List Int) (i : Nat) : Fk p q i 0 := fun b h => absurd h (by omega)
theorem Fk.step {p q : List Int} {i k : Nat} (h : Fk p q i k) (h1 : ¬ bad p q i k) : Fk p q i (k + 1) := fun b hb => by
  rcases Nat.lt_or_ge b k with h2 | h2
  · exact h b h2
  · have : b = k := by omega
    subst this; exact h1
theorem Fi.step {p q : List Int} {i : Nat} (h : Fi p q i) (h1 : Fk p q i i) : Fi p q (i + 1) := fun a b ha hb => by
  rcases Nat.lt_or_ge a i with h2 | h2
  · exact h a b h2 hb
  · have : a = i := by omega
    subst this; exact h1 b hb
theorem Fi.fin {p q : List Int} (h : Fi p q p.length) : fin p q := fun i j hi hj e => by
  apply Classical.byContradiction
  intro h1
  rcases Nat.lt_trichotomy i j with h2 | h2 | h2
  · exact h j i hj h2 ⟨e.symm, fun e2 => h1 e2.symm⟩
  · subst h2; exact h1 rfl
  · exact h i j hi h2 ⟨e, h1⟩
theorem not_fin {p q : List Int} {i k : Nat} (hi : i < p.length) (hk : k < i) (h : bad p q i k) : ¬ fin p q := fun h1 => h.2 (h1 i k hi (by omega) h.1)
open Classical in
/-- Is it finer? -/
noncomputable def finB (p q : List Int) : Bool := decide (fin p q)
theorem finB_yes {p q : List Int} (h : fin p q) : finB p q = true := by simp [finB, h]
theorem finB_no {p q : List Int} (h : ¬ fin p q) : finB p q = false := by simp [finB, h]
noncomputable def finI (p q : List Int) : Int := if finB p q then 1 else 0
theorem finI_yes {p q : List Int} (h : fin p q) : finI p q = 1 := by simp [finI, finB_yes h]
theorem finI_no {p q : List Int} (h : ¬ fin p q) : finI p q = 0 := by simp [finI, finB_no h]
/-- The reference's pairs, one at a time. -/
theorem rpRow_yes {p q : List Int} {i k : Nat} (h : gz p i = gz p k ∨ gz q i = gz q k) : rpRow p q i (k + 1) = rpRow p q i k ++ [(k, i)] := by
  unfold rpRow
  rw [List.range_succ, List.filter_append, List.map_append]
  congr 1
  have : (gz p i == gz p k || gz q i == gz q k) = true := by simpa using h
  simp [this]
theorem rpRow_no {p q : List Int} {i k : Nat} (h : ¬ (gz p i = gz p k ∨ gz q i = gz q k)) : rpRow p q i (k + 1) = rpRow p q i k := by
  unfold rpRow
  rw [List.range_succ, List.filter_append, List.map_append]
  have : (gz p i == gz p k || gz q i == gz q k) = false := by simpa using h
  simp [this]
theorem rp_succ (p q : List Int) (n : Nat) : rp p q (n + 1) = rp p q n ++ rpRow p q n n := by simp [rp, List.range_succ]
theorem rpRow_zero (p q : List Int) (i : Nat) : rpRow p q i 0 = [] := rfl
theorem rp_zero (p q : List Int) : rp p q 0 = [] := rfl
/-- The reference's Close: the inner loop. -/
def insN (l : List Int) (x y k : Nat) : List Int := (ins l x y).take k ++ l.drop k
theorem insN_zero (l : List Int) (x y : Nat) : insN l x y 0 = l := by simp [insN]
theorem insN_len (l : List Int) (x y k : Nat) : (insN l x y k).length = l.length := by
  unfold insN
  rw [List.length_append, List.length_take, ins_len, List.length_drop]
  omega
theorem insN_gz {l : List Int} {x y k i : Nat} (hi : i < l.length) : gz (insN l x y k) i = if i < k then gz (ins l x y) i else gz l i := by
  unfold insN
  rcases Nat.lt_or_ge i k with h | h
  · rw [if_pos h, gz_left (by rw [List.length_take, ins_len]; omega), gz_take h]
  · rw [if_neg (by omega)]
    unfold gz
    rw [List.getElem?_append_right (by rw [List.length_take]; omega), List.getElem?_drop, List.length_take, ins_len]
    congr 2
    omega
theorem insN_at {l : List Int} {x y k : Nat} (hk : k < l.length) : gz (insN l x y k) k = gz l k := by rw [insN_gz hk, if_neg (by omega)]
theorem insN_done (l : List Int) (x y : Nat) : insN l x y l.length = ins l x y := by
  unfold insN
  rw [List.take_of_length_le (by rw [ins_len]; omega), List.drop_of_length_le (Nat.le_refl _), List.append_nil]
theorem insN_hit {l : List Int} {x y k : Nat} (hk : k < l.length) (h : gz l k = gz l y) : (insN l x y k).set k (gz l x) = insN l x y (k + 1) := by
  refine ext_gz (by rw [List.length_set, insN_len, insN_len]) fun i hi => ?_
  rw [List.length_set, insN_len] at hi
  rw [gz_set (by rw [insN_len]; exact hk), insN_gz hi, insN_gz hi]
  by_cases h1 : i = k
  · subst h1
    rw [if_pos rfl, if_pos (by omega), ins, gz_map hi, if_pos h]
  · rw [if_neg h1]
    by_cases h2 : i < k
    · rw [if_pos h2, if_pos (by omega)]
    · rw [if_neg h2, if_neg (by omega)]
theorem insN_miss {l : List Int} {x y k : Nat} (hk : k < l.length) (h : ¬ gz l k = gz l y) : insN l x y k = insN l x y (k + 1) := by
  refine ext_gz (by rw [insN_len, insN_len]) fun i hi => ?_
  rw [insN_len] at hi
  rw [insN_gz hi, insN_gz hi]
  by_cases h1 : i = k
  · subst h1
    rw [if_neg (by omega), if_pos (by omega), ins, gz_map hi, if_neg h]
  · by_cases h2 : i < k
    · rw [if_pos h2, if_pos (by omega)]
    · rw [if_neg h2, if_neg (by omega)]
theorem closeR_step {n : Nat} {ps : List (Nat × Nat)} {k x y : Nat} (h : ps[k]? = some (x, y)) : closeR n (ps.take (k + 1)) = ins (closeR n (ps.take k)) x y := by
  rw [List.take_add_one, h]
  exact closeR_snoc _ _ _
/-- The program's pairs. -/
structure Lk (p : List Int) (k : Nat) (fs : List Int) : Prop where
  len : fs.length = cnt (p.take k)
  at_ : ∀ b : Nat, b < cnt (p.take k) → gz fs b = p.idxOf (b : Int)
theorem Lk.start (p : List Int) : Lk p 0 [] := ⟨rfl, fun b h => absurd h (by simp [cnt_nil])⟩
theorem Lk.new {p fs : List Int} {k : Nat} (h : Lk p k fs) (hp : Vd p) (hk : k < p.length) (h1 : gz p k = fs.length) : Lk p (k + 1) (fs ++ [(k : Int)]) := by
  have hv := hp.take (k + 1)
  have e := cnt_bad (p := p) hk (hp.take k)
  have hc : cnt (p.take (k + 1)) = cnt (p.take k) + 1 := by
    rw [take_gz hk, (hp.take k).cnt_next (by rw [h1, h.len])]
  refine ⟨by rw [List.length_append, List.length_singleton, h.len, hc], fun b hb => ?_⟩
  rw [hc] at hb
  rcases Nat.lt_or_ge b (cnt (p.take k)) with h2 | h2
  · rw [gz_left (by rw [h.len]; exact h2)]
    exact h.at_ b h2
  · have hb2 : b = fs.length := by rw [h.len]; omega
    subst hb2
    rw [gz_snoc, ← h1]
    have hnot : ¬ gz p k ∈ p.take k := fun hm => by
      have := (hp.take k).bound hm
      rw [h1, h.len] at this
      omega
    have e2 : p.idxOf (gz p k) = k := by
      have hs : p = p.take k ++ (gz p k :: p.drop (k + 1)) := by
        conv => lhs; rw [← List.take_append_drop k p, List.drop_eq_getElem_cons hk]
        simp [gz, List.getElem?_eq_getElem hk]
      have h3 := List.idxOf_append (l₁ := p.take k) (l₂ := gz p k :: p.drop (k + 1)) (a := gz p k)
      rw [← hs, if_neg hnot] at h3
      rw [h3]
      simp
      omega
    rw [e2]
theorem Lk.old {p fs : List Int} {k : Nat} (h : Lk p k fs) (hp : Vd p) (hk : k < p.length) (h1 : ¬ gz p k = fs.length) : Lk p (k + 1) fs := by
  have h2 := vd_gz hp hk
  have h3 := hp.take (k + 1)
  rw [take_gz hk] at h3
  have h4 := ((vd_step (hp.take k)).1 h3)
  have hc : cnt (p.take (k + 1)) = cnt (p.take k) := by
    rw [take_gz hk, (hp.take k).cnt_same h2.1 (by have := h.len; omega)]
  exact ⟨by rw [hc]; exact h.len, fun b hb => h.at_ b (by rw [hc] at hb; exact hb)⟩
theorem Lk.got {p fs : List Int} {k : Nat} (h : Lk p (k + 1) fs) (hp : Vd p) (hk : k < p.length) : (gz p k).toNat < fs.length ∧ gz fs (gz p k).toNat = p.idxOf (gz p k) := by
  have hm : gz p k ∈ p.take (k + 1) := (mem_take (by omega)).2 ⟨k, by omega, rfl⟩
  have hb := (hp.take (k + 1)).bound hm
  have e : ((gz p k).toNat : Int) = gz p k := by omega
  have := h.at_ (gz p k).toNat (by omega)
  rw [e] at this
  exact ⟨by rw [h.len]; omega, this⟩
def lkN (p : List Int) (k : Nat) : List (Nat × Nat) := (List.range k).map fun i => (p.idxOf (gz p i), i)
theorem lkN_succ (p : List Int) (k : Nat) : lkN p (k + 1) = lkN p k ++ [(p.idxOf (gz p k), k)] := by simp [lkN, List.range_succ]
/-- The law's partitions: elements behind the list are 0. -/
def pad (x : List Int) (n : Nat) : List Int := (List.range n).map fun i => gz x i
theorem pad_len (x : List Int) (n : Nat) : (pad x n).length = n := by simp [pad]
theorem pad_succ (x : List Int) (n : Nat) : pad x (n + 1) = pad x n ++ [gz x n] := by simp [pad, List.range_succ]
def mr (p q : List Int) (k : Nat) : List Int := (List.range k).map fun i => gz p i * 1000 + gz q i
theorem mr_succ (p q : List Int) (k : Nat) : mr p q (k + 1) = mr p q k ++ [gz p k * 1000 + gz q k] := by simp [mr, List.range_succ]
theorem mr_done (p q : List Int) : mr p q p.length = meetR p q := rfl
end Go.Proofs.YtnhibkkkpmaddaaDoor.M
