/-
  The mathematics of machines that a tree and edges tell. No statement is proved here.
-/
import Derived.Test.YtnodnfailjmpeaaBaZ
namespace Go.Proofs.Ytnodnfailjmpeaa.Mc

/-- The edge of a number, row by row. -/
def fe (rs : List (List Ed)) (i k : Nat) : Ed := (((rs[k / i]?).getD [])[k % i]?).getD nE
theorem fe_at {rs : List (List Ed)} {i a b : Nat} {row : List Ed} {x : Ed} (ha : rs[a]? = some row) (hb : row[b]? = some x) (hbi : b < i) : fe rs i (a * i + b) = x := by
  have e1 : (a * i + b) / i = a := by rw [Nat.add_comm, Nat.add_mul_div_right _ _ (by omega), Nat.div_eq_of_lt hbi, Nat.zero_add]
  have e2 : (a * i + b) % i = b := by rw [Nat.add_comm, Nat.add_mul_mod_self_right, Nat.mod_eq_of_lt hbi]
  unfold fe
  rw [e1, e2, ha, Option.getD_some, hb, Option.getD_some]
/-- Rows of as many edges as there are inputs. -/
structure Gr (n i o : Nat) (rs : List (List Ed)) : Prop where
  len : rs.length = n
  row : ∀ row ∈ rs, row.length = i
  out : ∀ row ∈ rs, ∀ x ∈ row, 0 ≤ x.2 ∧ x.2 < o
section
variable {n i o : Nat} {rs : List (List Ed)}
theorem div_lt' {k : Nat} (hk : k < n * i) : k / i < n := by
  refine Nat.div_lt_of_lt_mul ?_
  rwa [Nat.mul_comm]
theorem Gr.at_ (h : Gr n i o rs) (hi : 0 < i) {k : Nat} (hk : k < n * i) : ∃ row, rs[k / i]? = some row ∧ row.length = i ∧ k % i < i ∧ k / i < n ∧ row[k % i]? = some (fe rs i k) := by
  have h1 := div_lt' hk
  have h2 := Nat.mod_lt k hi
  have hl : k / i < rs.length := by rw [h.len]; exact h1
  have h3 : rs[k / i]? = some rs[k / i] := List.getElem?_eq_getElem hl
  have h4 := h.row _ (List.mem_of_getElem? h3)
  refine ⟨_, h3, h4, h2, h1, ?_⟩
  unfold fe
  rw [h3, Option.getD_some, List.getElem?_eq_getElem (show k % i < _ by rw [h4]; exact h2), Option.getD_some]
theorem Gr.put (h : Gr n i o rs) (hi : 0 < i) {k : Nat} (hk : k < n * i) {row : List Ed} (hr : rs[k / i]? = some row) (y : Int) :
    Gr n i o (rs.set (k / i) (row.set (k % i) (y, (fe rs i k).2))) ∧ fe (rs.set (k / i) (row.set (k % i) (y, (fe rs i k).2))) i k = (y, (fe rs i k).2) ∧
      ∀ k', k' ≠ k → fe (rs.set (k / i) (row.set (k % i) (y, (fe rs i k).2))) i k' = fe rs i k' := by
  obtain ⟨row', h1, h2, h3, h4, h5⟩ := h.at_ hi hk
  rw [hr] at h1
  injection h1 with h1
  subst h1
  have hs : k / i < rs.length := by rw [h.len]; exact h4
  have ho : 0 ≤ (fe rs i k).2 ∧ (fe rs i k).2 < o := h.out _ (List.mem_of_getElem? hr) _ (List.mem_of_getElem? h5)
  refine ⟨⟨by rw [List.length_set]; exact h.len, fun r hm => ?_, fun r hm x hx => ?_⟩, ?_, fun k' hne => ?_⟩
  · rcases List.mem_or_eq_of_mem_set hm with hm | rfl
    · exact h.row r hm
    · rw [List.length_set]; exact h2
  · rcases List.mem_or_eq_of_mem_set hm with hm | rfl
    · exact h.out r hm x hx
    · rcases List.mem_or_eq_of_mem_set hx with hx | rfl
      · exact h.out row (List.mem_of_getElem? hr) x hx
      · exact ho
  · rw [show fe (rs.set (k / i) (row.set (k % i) (y, (fe rs i k).2))) i k = ((((rs.set (k / i) (row.set (k % i) (y, (fe rs i k).2)))[k / i]?).getD [])[k % i]?).getD nE from rfl]
    rw [List.getElem?_set_self hs, Option.getD_some, List.getElem?_set_self (by rw [h2]; exact h3), Option.getD_some]
  · by_cases e : k' / i = k / i
    · have e2 : k' % i ≠ k % i := fun e2 => hne (by rw [← Nat.div_add_mod k' i, ← Nat.div_add_mod k i, e, e2])
      show ((((rs.set (k / i) _)[k' / i]?).getD [])[k' % i]?).getD nE = (((rs[k' / i]?).getD [])[k' % i]?).getD nE
      rw [e, List.getElem?_set_self hs, Option.getD_some, List.getElem?_set_ne (Ne.symm e2), hr, Option.getD_some]
    · show ((((rs.set (k / i) _)[k' / i]?).getD [])[k' % i]?).getD nE = (((rs[k' / i]?).getD [])[k' % i]?).getD nE
      rw [List.getElem?_set_ne (Ne.symm e)]
/-- How many of the first edges are defined. -/
def dn (rs : List (List Ed)) (i N : Nat) : Nat := (List.range N).countP fun k => decide (0 ≤ (fe rs i k).1)
theorem dn_succ (rs : List (List Ed)) (i N : Nat) : dn rs i (N + 1) = dn rs i N + if 0 ≤ (fe rs i N).1 then 1 else 0 := by
  unfold dn
  rw [List.range_succ, List.countP_append]
  by_cases h : 0 ≤ (fe rs i N).1 <;> simp [h]
theorem dn_mono (rs : List (List Ed)) (i : Nat) {N : Nat} : ∀ {M : Nat}, N ≤ M → dn rs i N ≤ dn rs i M
  | 0, h => by rw [show N = 0 by omega]; exact Nat.le_refl _
  | M + 1, h => by
    rcases Nat.lt_or_ge M N with h1 | h1
    · rw [show N = M + 1 by omega]; exact Nat.le_refl _
    · rw [dn_succ]; have := dn_mono rs i h1; omega
theorem dn_put {rs rs' : List (List Ed)} {i k : Nat} (h : ∀ k', k' ≠ k → fe rs' i k' = fe rs i k') : ∀ N, dn rs' i N ≤ dn rs i N + if k < N then 1 else 0
  | 0 => by simp [dn]
  | N + 1 => by
    have := dn_put h N
    rw [dn_succ, dn_succ]
    by_cases e : N = k
    · subst e
      rw [if_neg (Nat.lt_irrefl N)] at this
      have a1 : (if N < N + 1 then 1 else 0) = 1 := if_pos (Nat.lt_succ_self N)
      have a2 : (if 0 ≤ (fe rs' i N).1 then 1 else 0) ≤ 1 := by split <;> omega
      omega
    · rw [h N e]
      rcases Nat.lt_or_ge k N with h1 | h1
      · rw [if_pos h1] at this
        have a1 : (if k < N + 1 then 1 else 0) = 1 := if_pos (by omega)
        omega
      · rw [if_neg (by omega)] at this
        have a1 : (if k < N + 1 then 1 else 0) = 0 := if_neg (by omega)
        omega
/-- The tree leads to the first s states. -/
structure Tr (n i s : Nat) (rs : List (List Ed)) : Prop where
  to : ∀ k, k < n * i → (fe rs i k).1 = -1 ∨ (0 ≤ (fe rs i k).1 ∧ (fe rs i k).1 < n)
  tree : ∀ t : Nat, 1 ≤ t → t < s → ∃ k, k < t * i ∧ (fe rs i k).1 = t
  cnt : dn rs i (n * i) ≤ s - 1
theorem Tr.start (h : ∀ k, k < n * i → (fe rs i k).1 = -1) : Tr n i 1 rs := by
  refine ⟨fun k hk => Or.inl (h k hk), fun t h1 h2 => absurd h2 (by omega), ?_⟩
  have key : ∀ N, N ≤ n * i → dn rs i N = 0 := fun N => by
    induction N with
    | zero => intro _; rfl
    | succ N ih =>
      intro hN
      rw [dn_succ, ih (by omega), if_neg (by have := h N (by omega); omega)]
  have := key _ (Nat.le_refl _)
  omega
theorem Tr.put {s : Nat} (h : Tr n i s rs) (g : Gr n i o rs) (hi : 0 < i) (hs : 1 ≤ s) (hn : s < n) {k : Nat} (hk : k < s * i) (hu : (fe rs i k).1 < 0) {row : List Ed} (hr : rs[k / i]? = some row) :
    Tr n i (s + 1) (rs.set (k / i) (row.set (k % i) ((s : Int), (fe rs i k).2))) := by
  have hkn : k < n * i := Nat.lt_of_lt_of_le hk (Nat.mul_le_mul_right i (by omega))
  obtain ⟨_, p1, p2⟩ := g.put hi hkn hr (s : Int)
  refine ⟨fun k' hk' => ?_, fun t h1 h2 => ?_, ?_⟩
  · by_cases e : k' = k
    · subst e; rw [p1]; exact Or.inr ⟨by simp, by simp; omega⟩
    · rw [p2 k' e]; exact h.to k' hk'
  · rcases Nat.lt_or_ge t s with h3 | h3
    · obtain ⟨k', h4, h5⟩ := h.tree t h1 h3
      refine ⟨k', h4, ?_⟩
      rw [p2 k' (fun e => by subst e; omega), h5]
    · obtain rfl : t = s := by omega
      exact ⟨k, hk, by rw [p1]⟩
  · have := dn_put (rs' := rs.set (k / i) (row.set (k % i) ((s : Int), (fe rs i k).2))) p2 (n * i)
    rw [if_pos hkn] at this
    have := h.cnt
    omega
/-- The free edges among the first ones. -/
def frl (rs : List (List Ed)) (i K : Nat) : List Int := ((List.range K).filter fun k => decide ((fe rs i k).1 < 0)).map fun (k : Nat) => (k : Int)
theorem frl_yes {K : Nat} (h : (fe rs i K).1 < 0) : frl rs i (K + 1) = frl rs i K ++ [(K : Int)] := by simp [frl, List.range_succ, h]
theorem frl_no {K : Nat} (h : ¬ (fe rs i K).1 < 0) : frl rs i (K + 1) = frl rs i K := by
  unfold frl
  rw [List.range_succ, List.filter_append]
  simp [h]
theorem frl_mem {K : Nat} {z : Int} (h : z ∈ frl rs i K) : ∃ k : Nat, z = k ∧ k < K ∧ (fe rs i k).1 < 0 := by
  obtain ⟨k, hk, rfl⟩ := List.mem_map.1 h
  obtain ⟨h1, h2⟩ := List.mem_filter.1 hk
  exact ⟨k, rfl, List.mem_range.1 h1, of_decide_eq_true h2⟩
theorem frl_le (rs : List (List Ed)) (i K : Nat) : (frl rs i K).length ≤ K := by
  have := List.length_filter_le (fun k => decide ((fe rs i k).1 < 0)) (List.range K)
  simpa [frl] using this
theorem frl_len (rs : List (List Ed)) (i : Nat) : ∀ K, (frl rs i K).length + dn rs i K = K
  | 0 => rfl
  | K + 1 => by
    have := frl_len rs i K
    rw [dn_succ]
    by_cases h : (fe rs i K).1 < 0
    · rw [frl_yes h, List.length_append, if_neg (by omega)]; simp; omega
    · rw [frl_no h, if_pos (by omega)]; omega
theorem Tr.free {s : Nat} (h : Tr n i s rs) (hi : 0 < i) (hs : 1 ≤ s) (hn : s < n) : 1 ≤ (frl rs i (s * i)).length := by
  have h1 := frl_len rs i (s * i)
  have h2 := dn_mono rs i (Nat.mul_le_mul_right i (show s ≤ n by omega))
  have h3 := h.cnt
  have h4 : s * 1 ≤ s * i := Nat.mul_le_mul_left s hi
  omega
/-- The first K edges are filled in. -/
structure Fl (n i K : Nat) (rs : List (List Ed)) : Prop where
  to : ∀ k, k < n * i → (fe rs i k).1 = -1 ∨ (0 ≤ (fe rs i k).1 ∧ (fe rs i k).1 < n)
  tree : ∀ t : Nat, 1 ≤ t → t < n → ∃ k, k < t * i ∧ (fe rs i k).1 = t
  done : ∀ k, k < K → 0 ≤ (fe rs i k).1
theorem Tr.fl (h : Tr n i n rs) : Fl n i 0 rs := ⟨h.to, h.tree, fun k hk => absurd hk (Nat.not_lt_zero k)⟩
theorem Fl.skip {K : Nat} (h : Fl n i K rs) (hd : ¬ (fe rs i K).1 < 0) : Fl n i (K + 1) rs :=
  ⟨h.to, h.tree, fun k hk => by
    rcases Nat.lt_or_ge k K with h1 | h1
    · exact h.done k h1
    · rw [show k = K by omega]; omega⟩
theorem Fl.put {K : Nat} (h : Fl n i K rs) (g : Gr n i o rs) (hi : 0 < i) (hk : K < n * i) (hu : (fe rs i K).1 < 0) {y : Int} (hy : 0 ≤ y ∧ y < n) {row : List Ed} (hr : rs[K / i]? = some row) :
    Fl n i (K + 1) (rs.set (K / i) (row.set (K % i) (y, (fe rs i K).2))) := by
  obtain ⟨_, p1, p2⟩ := g.put hi hk hr y
  refine ⟨fun k' hk' => ?_, fun t h1 h2 => ?_, fun k' hk' => ?_⟩
  · by_cases e : k' = K
    · subst e; rw [p1]; exact Or.inr hy
    · rw [p2 k' e]; exact h.to k' hk'
  · obtain ⟨k', h4, h5⟩ := h.tree t h1 h2
    refine ⟨k', h4, ?_⟩
    rw [p2 k' (fun e => by subst e; omega), h5]
  · by_cases e : k' = K
    · subst e; rw [p1]; exact hy.1
    · rw [p2 k' e]; exact h.done k' (by omega)
/-- What the machine is. -/
structure Cm (n i o : Nat) (m : Ma) : Prop where
  val : Val m
  inp : m.i = i
  out : m.o = o
  len : m.r.length = n
  all : dfd m.r = n * i
  con : conn m = true
theorem dfd_full : ∀ {rs : List (List Ed)} {i : Nat}, (∀ row ∈ rs, row.length = i ∧ ∀ x ∈ row, 0 ≤ x.1) → dfd rs = rs.length * i
  | [], i, _ => by simp [dfd]
  | row :: rs, i, h => by
    have ih := dfd_full (rs := rs) (i := i) fun r hr => h r (by simp [hr])
    have h1 := h row (by simp)
    have h2 : cntE row = i := by
      unfold cntE
      rw [← h1.1, List.countP_eq_length]
      intro x hx
      simpa using h1.2 x hx
    unfold dfd at ih ⊢
    rw [List.map_cons, List.sum_cons, ih, h2, List.length_cons, Nat.add_mul]
    omega
theorem Cm.of (g : Gr n i o rs) (f : Fl n i (n * i) rs) (hn : 1 ≤ n ∧ n ≤ 6) (hi : 1 ≤ i ∧ i ≤ 3) (ho : 1 ≤ o ∧ o ≤ 3) : Cm n i o ⟨i, o, rs⟩ := by
  have hx : ∀ (a : Nat) (row : List Ed), rs[a]? = some row → ∀ (b : Nat) (x : Ed), row[b]? = some x → 0 ≤ x.1 ∧ x.1 < n ∧ 0 ≤ x.2 ∧ x.2 < o := fun a row ha b x hb => by
    have h1 := g.row row (List.mem_of_getElem? ha)
    have h2 := (List.getElem?_eq_some_iff.1 hb).1
    have h3 := (List.getElem?_eq_some_iff.1 ha).1
    rw [g.len] at h3
    have h4 : a * i + b < n * i := by
      have : (a + 1) * i ≤ n * i := Nat.mul_le_mul_right i h3
      rw [Nat.add_mul] at this
      omega
    have e := fe_at ha hb (by omega : b < i)
    have h5 := f.done _ h4
    have h6 := f.to _ h4
    rw [e] at h5 h6
    have h7 := g.out row (List.mem_of_getElem? ha) x (List.mem_of_getElem? hb)
    omega
  refine ⟨⟨by show (1 : Int) ≤ i; omega, by show (i : Int) ≤ 16; omega, by show (1 : Int) ≤ o; omega, by show (o : Int) ≤ 16; omega, by show 1 ≤ rs.length; rw [g.len]; omega, by show rs.length ≤ 64; rw [g.len]; omega, fun row hr => by show (row.length : Int) = i; rw [g.row row hr], fun row hr x hxr => ?_⟩, rfl, rfl, g.len, ?_, ?_⟩
  · obtain ⟨a, ha⟩ := List.mem_iff_getElem?.1 hr
    obtain ⟨b, hb⟩ := List.mem_iff_getElem?.1 hxr
    have := hx a row ha b x hb
    show _ ∨ (0 ≤ x.1 ∧ x.1 < (rs.length : Int) ∧ 0 ≤ x.2 ∧ x.2 < (o : Int))
    rw [g.len]
    omega
  · show dfd rs = n * i
    rw [← g.len]
    refine dfd_full fun row hr => ⟨g.row row hr, fun x hxr => ?_⟩
    obtain ⟨a, ha⟩ := List.mem_iff_getElem?.1 hr
    obtain ⟨b, hb⟩ := List.mem_iff_getElem?.1 hxr
    exact (hx a row ha b x hb).1
  · rw [conn_iff]
    show ∀ s, s < rs.length → Rch ⟨i, o, rs⟩ 0 s
    rw [g.len]
    have key : ∀ N s, s < N → s < n → Rch ⟨i, o, rs⟩ 0 s := fun N => by
      induction N with
      | zero => intro s h; omega
      | succ N ih =>
        intro s h1 h2
        rcases Nat.eq_zero_or_pos s with rfl | h3
        · exact .here
        · obtain ⟨k, hk, hto⟩ := f.tree s h3 h2
          have hkn : k < n * i := Nat.lt_of_lt_of_le hk (Nat.mul_le_mul_right i (by omega))
          obtain ⟨row, a1, _, _, _, a5⟩ := g.at_ (by omega) hkn
          have hlt : k / i < s := div_lt' hk
          have := Rch.step (m := ⟨i, o, rs⟩) (ih (k / i) (by omega) (by omega)) a1 a5 (by rw [hto]; omega)
          rw [hto, Int.toNat_natCast] at this
          exact this
    exact fun s hs => key (s + 1) s (by omega) hs
end
end Go.Proofs.Ytnodnfailjmpeaa.Mc
