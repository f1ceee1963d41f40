/-
  The plain mathematics of partitions: lists of ints, no program. No statement is proved here.
-/
namespace Go.Proofs.YtnhibkkkpmaddaaDoor.M

/-- An element of a list, 0 behind its end. -/
def gz (l : List Int) (i : Nat) : Int := l[i]?.getD 0
theorem gz_map {f : Int → Int} {l : List Int} {i : Nat} (h : i < l.length) : gz (l.map f) i = f (gz l i) := by
  simp [gz, List.getElem?_map, List.getElem?_eq_getElem h]
theorem gz_left {l r : List Int} {i : Nat} (h : i < l.length) : gz (l ++ r) i = gz l i := by
  simp [gz, List.getElem?_append_left h]
theorem gz_snoc {l : List Int} {z : Int} : gz (l ++ [z]) l.length = z := by simp [gz]
theorem gz_mem {l : List Int} {i : Nat} (h : i < l.length) : gz l i ∈ l := by
  simp [gz, List.getElem?_eq_getElem h]
theorem mem_gz {l : List Int} {z : Int} (h : z ∈ l) : ∃ i, i < l.length ∧ gz l i = z := by
  obtain ⟨i, hi, e⟩ := List.getElem_of_mem h
  exact ⟨i, hi, by simp [gz, List.getElem?_eq_getElem hi, e]⟩
theorem gz_take {l : List Int} {k i : Nat} (h : i < k) : gz (l.take k) i = gz l i := by
  simp [gz, h]
theorem ext_gz {l r : List Int} (hl : l.length = r.length) (h : ∀ i, i < l.length → gz l i = gz r i) : l = r := by
  refine List.ext_getElem hl fun i h1 h2 => ?_
  have := h i h1
  simpa [gz, List.getElem?_eq_getElem h1, List.getElem?_eq_getElem h2] using this
theorem take_gz {l : List Int} {k : Nat} (h : k < l.length) : l.take (k + 1) = l.take k ++ [gz l k] := by
  rw [List.take_add_one, List.getElem?_eq_getElem h]; simp [gz, List.getElem?_eq_getElem h]
theorem mem_take {l : List Int} {k : Nat} {z : Int} (hk : k ≤ l.length) : z ∈ l.take k ↔ ∃ i, i < k ∧ gz l i = z := by
  constructor
  · intro h
    obtain ⟨i, hi, e⟩ := mem_gz h
    rw [List.length_take] at hi
    exact ⟨i, by omega, by rw [gz_take (by omega)] at e; exact e⟩
  · rintro ⟨i, hi, rfl⟩
    rw [← gz_take hi]
    exact gz_mem (by rw [List.length_take]; omega)

/-- The values of a list in the order of their first places. -/
def dsAdd (a : List Int) (z : Int) : List Int := if z ∈ a then a else a ++ [z]
def ds (l : List Int) : List Int := l.foldl dsAdd []
theorem ds_snoc (l : List Int) (z : Int) : ds (l ++ [z]) = dsAdd (ds l) z := by simp [ds]
theorem mem_dsAdd {a : List Int} {z x : Int} : x ∈ dsAdd a z ↔ x ∈ a ∨ x = z := by
  unfold dsAdd
  split
  · constructor
    · exact .inl
    · rintro (h | rfl) <;> assumption
  · simp
theorem snoc_rec {P : List Int → Prop} (h0 : P []) (h1 : ∀ l z, P l → P (l ++ [z])) (l : List Int) : P l := by
  have : ∀ (n : Nat) (l : List Int), l.length = n → P l := by
    intro n
    induction n with
    | zero => intro l hl; rw [List.eq_nil_of_length_eq_zero hl]; exact h0
    | succ n ih =>
      intro l hl
      have hne : l ≠ [] := by intro e; subst e; simp at hl
      rw [← List.dropLast_concat_getLast hne]
      exact h1 _ _ (ih _ (by simp [hl]))
  exact this _ l rfl
theorem mem_ds {l : List Int} {z : Int} : z ∈ ds l ↔ z ∈ l := by
  induction l using snoc_rec with
  | h0 => simp [ds]
  | h1 l y ih => rw [ds_snoc, mem_dsAdd, ih]; simp
/-- The number of a value: its place among the values. -/
def nu (l : List Int) (z : Int) : Nat := (ds l).idxOf z
/-- How many different values there are. -/
def cnt (l : List Int) : Nat := (ds l).length
theorem nu_lt {l : List Int} {z : Int} (h : z ∈ l) : nu l z < cnt l := List.idxOf_lt_length_iff.2 (mem_ds.2 h)
theorem cnt_nil : cnt [] = 0 := rfl
theorem cnt_old {l : List Int} {z : Int} (h : z ∈ l) : cnt (l ++ [z]) = cnt l := by
  unfold cnt
  rw [ds_snoc, dsAdd, if_pos (mem_ds.2 h)]
theorem cnt_new {l : List Int} {z : Int} (h : ¬ z ∈ l) : cnt (l ++ [z]) = cnt l + 1 := by
  unfold cnt
  rw [ds_snoc, dsAdd, if_neg (fun h1 => h (mem_ds.1 h1))]
  simp
theorem cnt_le (l : List Int) : cnt l ≤ l.length := by
  induction l using snoc_rec with
  | h0 => simp [cnt_nil]
  | h1 l z ih =>
    by_cases h : z ∈ l
    · rw [cnt_old h]; simp; omega
    · rw [cnt_new h]; simp; omega
theorem nu_stays {l : List Int} {z y : Int} (h : z ∈ l) : nu (l ++ [y]) z = nu l z := by
  unfold nu
  rw [ds_snoc, dsAdd]
  split
  · rfl
  · rw [List.idxOf_append, if_pos (mem_ds.2 h)]
theorem nu_new {l : List Int} {z : Int} (h : ¬ z ∈ l) : nu (l ++ [z]) z = cnt l := by
  have h1 : ¬ z ∈ ds l := fun h1 => h (mem_ds.1 h1)
  unfold nu cnt
  rw [ds_snoc, dsAdd, if_neg h1, List.idxOf_append, if_neg h1]
  simp
theorem nu_old {l : List Int} {z : Int} (h : z ∈ l) : nu (l ++ [z]) z = nu l z := nu_stays h
theorem nu_inj {l : List Int} {x y : Int} (hx : x ∈ l) (hy : y ∈ l) (h : nu l x = nu l y) : x = y := by
  have h1 := nu_lt hx
  have h2 := nu_lt hy
  unfold nu cnt at *
  have e1 := List.getElem_idxOf h1
  have e2 := List.getElem_idxOf h2
  rw [← e1, ← e2]
  simp [h]
/-- The partition by equal elements. -/
def ofL (l : List Int) : List Int := l.map fun z => (nu l z : Int)
theorem ofL_len (l : List Int) : (ofL l).length = l.length := by simp [ofL]
theorem ofL_nil : ofL [] = [] := rfl
theorem ofL_gz {l : List Int} {i : Nat} (h : i < l.length) : gz (ofL l) i = nu l (gz l i) := gz_map h
theorem ofL_snoc (l : List Int) (z : Int) : ofL (l ++ [z]) = ofL l ++ [(nu (l ++ [z]) z : Int)] := by
  unfold ofL
  rw [List.map_append, List.map_singleton]
  congr 1
  refine List.map_congr_left fun x hx => ?_
  rw [nu_stays hx]
theorem ofL_take {l : List Int} {k : Nat} (h : k ≤ l.length) : ofL (l.take k) = (ofL l).take k := by
  have key : ∀ (m : Nat), m ≤ l.length → k ≤ m → ofL (l.take k) = (ofL (l.take m)).take k := by
    intro m
    induction m with
    | zero => intro _ hk; have : k = 0 := by omega
              subst this; simp [ofL_nil]
    | succ m ih =>
      intro hm hk
      rcases Nat.lt_or_ge m k with h1 | h1
      · have : k = m + 1 := by omega
        subst this
        exact (List.take_of_length_le (by rw [ofL_len, List.length_take]; omega)).symm
      · rw [take_gz (by omega), ofL_snoc, List.take_append_of_le_length (by rw [ofL_len, List.length_take]; omega)]
        exact ih (by omega) h1
  have := key l.length (Nat.le_refl _) h
  rwa [List.take_of_length_le (Nat.le_refl l.length)] at this
theorem ofL_step {l : List Int} {k : Nat} (h : k < l.length) : (ofL l).take (k + 1) = (ofL l).take k ++ [(nu (l.take (k + 1)) (gz l k) : Int)] := by
  rw [← ofL_take (by omega), ← ofL_take (by omega), take_gz h, ofL_snoc]
theorem ofL_at {l : List Int} {k : Nat} (h : k < l.length) : gz (ofL l) k = nu (l.take (k + 1)) (gz l k) := by
  have e := ofL_step h
  have e2 := take_gz (l := ofL l) (k := k) (by rw [ofL_len]; exact h)
  rw [e] at e2
  have := List.append_cancel_left e2
  simpa using this.symm

/-- Over the first n places: whatever the first one has alike, the second one has alike. -/
def le (n : Nat) (f g : Nat → Int) : Prop := ∀ i j, i < n → j < n → f i = f j → g i = g j
theorem le_refl (n : Nat) (f : Nat → Int) : le n f f := fun _ _ _ _ h => h
theorem le_trans {n : Nat} {f g h : Nat → Int} (h1 : le n f g) (h2 : le n g h) : le n f h := fun i j hi hj e => h2 i j hi hj (h1 i j hi hj e)
theorem le_ofL (l : List Int) : le l.length (gz l) (gz (ofL l)) := fun i j hi hj e => by rw [ofL_gz hi, ofL_gz hj, e]
theorem ofL_le (l : List Int) : le l.length (gz (ofL l)) (gz l) := fun i j hi hj e => by
  rw [ofL_gz hi, ofL_gz hj] at e
  exact nu_inj (gz_mem hi) (gz_mem hj) (by omega)
theorem congr_both (l : List Int) : ∀ r : List Int, l.length = r.length → le l.length (gz l) (gz r) → le l.length (gz r) (gz l) → ofL l = ofL r ∧ cnt l = cnt r := by
  induction l using snoc_rec with
  | h0 =>
    intro r hl _ _
    have : r = [] := List.eq_nil_of_length_eq_zero (by simpa using hl.symm)
    subst this
    exact ⟨rfl, rfl⟩
  | h1 l z ih =>
    intro r hl h1 h2
    have hne : r ≠ [] := by intro e; subst e; simp at hl
    obtain ⟨r', y, rfl⟩ : ∃ r' y, r = r' ++ [y] := ⟨_, _, (List.dropLast_concat_getLast hne).symm⟩
    have hl' : l.length = r'.length := by simpa using hl
    have gl : ∀ i, i < l.length → gz (l ++ [z]) i = gz l i := fun i hi => gz_left hi
    have gr : ∀ i, i < l.length → gz (r' ++ [y]) i = gz r' i := fun i hi => gz_left (by omega)
    have zl : gz (l ++ [z]) l.length = z := gz_snoc
    have zr : gz (r' ++ [y]) l.length = y := by rw [hl']; exact gz_snoc
    have hn : (l ++ [z]).length = l.length + 1 := by simp
    rw [hn] at h1 h2
    obtain ⟨e1, e2⟩ := ih r' hl' (fun i j hi hj e => by have := h1 i j (by omega) (by omega); rw [gl i hi, gl j hj, gr i hi, gr j hj] at this; exact this e) (fun i j hi hj e => by have := h2 i j (by omega) (by omega); rw [gl i hi, gl j hj, gr i hi, gr j hj] at this; exact this e)
    rw [ofL_snoc, ofL_snoc, e1]
    by_cases hz : z ∈ l
    · obtain ⟨i, hi, ei⟩ := mem_gz hz
      have ey : gz r' i = y := by
        have := h1 i l.length (by omega) (by omega)
        rw [gl i hi, zl, gr i hi, zr] at this
        exact this ei
      have hy : y ∈ r' := by rw [← ey]; exact gz_mem (by omega)
      rw [nu_old hz, nu_old hy, cnt_old hz, cnt_old hy]
      refine ⟨?_, e2⟩
      have := congrArg (gz · i) e1
      simp only [ofL_gz hi, ofL_gz (show i < r'.length by omega), ei, ey] at this
      rw [this]
    · have hy : ¬ y ∈ r' := by
        intro hy
        obtain ⟨i, hi, ei⟩ := mem_gz hy
        have := h2 i l.length (by omega) (by omega)
        rw [gl i (by omega), zl, gr i (by omega), zr] at this
        have := this ei
        exact hz (this ▸ gz_mem (by omega))
      rw [nu_new hz, nu_new hy, cnt_new hz, cnt_new hy, e2]
      exact ⟨rfl, rfl⟩
/-- Lists that are alike at the same places have the same partition. -/
theorem ofL_congr {l r : List Int} (hl : l.length = r.length) (h1 : le l.length (gz l) (gz r)) (h2 : le l.length (gz r) (gz l)) : ofL l = ofL r := (congr_both l r hl h1 h2).1
theorem ofL_ofL (l : List Int) : ofL (ofL l) = ofL l := ofL_congr (ofL_len l) (by rw [ofL_len]; exact ofL_le l) (by rw [ofL_len]; exact le_ofL l)
theorem cnt_ofL (l : List Int) : cnt (ofL l) = cnt l := (congr_both _ _ (ofL_len l) (by rw [ofL_len]; exact ofL_le l) (by rw [ofL_len]; exact le_ofL l)).2
/-- A list is a partition. -/
def Vd (p : List Int) : Prop := ofL p = p
theorem Vd.nil_ : Vd [] := rfl
theorem Vd.of_ (l : List Int) : Vd (ofL l) := ofL_ofL l
theorem Vd.take {p : List Int} (h : Vd p) (k : Nat) : Vd (p.take k) := by
  rcases Nat.lt_or_ge p.length k with h1 | h1
  · rw [List.take_of_length_le (by omega)]; exact h
  · unfold Vd
    rw [ofL_take h1, h]
theorem vd_snoc {q : List Int} {z : Int} : Vd (q ++ [z]) ↔ Vd q ∧ z = nu (q ++ [z]) z := by
  unfold Vd
  rw [ofL_snoc]
  constructor
  · intro h
    have := List.append_inj' h rfl
    exact ⟨this.1, by simpa using this.2.symm⟩
  · rintro ⟨h1, h2⟩
    rw [h1, ← h2]
theorem Vd.mem {p : List Int} (h : Vd p) {z : Int} (hz : z ∈ p) : z = nu p z := by
  obtain ⟨i, hi, e⟩ := mem_gz hz
  have := ofL_gz hi
  rw [h, e] at this
  exact this
theorem Vd.bound {p : List Int} (h : Vd p) {z : Int} (hz : z ∈ p) : 0 ≤ z ∧ z < cnt p := by
  have h1 := h.mem hz
  have h2 := nu_lt hz
  omega
/-- The values of a partition are the numbers below how many there are. -/
theorem Vd.has {p : List Int} (h : Vd p) : ∀ (k : Nat), k < cnt p → (k : Int) ∈ p := by
  induction p using snoc_rec with
  | h0 => intro k hk; simp [cnt_nil] at hk
  | h1 q z ih =>
    intro k hk
    obtain ⟨h1, h2⟩ := vd_snoc.1 h
    by_cases hz : z ∈ q
    · rw [cnt_old hz] at hk
      exact List.mem_append_left _ (ih h1 k hk)
    · rw [cnt_new hz] at hk
      rw [nu_new hz] at h2
      rcases Nat.lt_or_ge k (cnt q) with h3 | h3
      · exact List.mem_append_left _ (ih h1 k h3)
      · have : (k : Int) = z := by omega
        rw [this]; simp
/-- The next block of a partition: one that is there, or the next number. -/
theorem vd_step {q : List Int} {z : Int} (h : Vd q) : Vd (q ++ [z]) ↔ 0 ≤ z ∧ z ≤ cnt q := by
  rw [vd_snoc]
  constructor
  · rintro ⟨_, h2⟩
    by_cases hz : z ∈ q
    · have := h.bound hz; omega
    · rw [nu_new hz] at h2; omega
  · rintro ⟨h1, h2⟩
    refine ⟨h, ?_⟩
    by_cases hz : z ∈ q
    · rw [nu_old hz]; exact h.mem hz
    · rw [nu_new hz]
      rcases Int.lt_or_le z (cnt q) with h3 | h3
      · exact absurd (by have := h.has z.toNat (by omega); rwa [Int.toNat_of_nonneg h1] at this) hz
      · omega
theorem Vd.cnt_same {q : List Int} {z : Int} (h : Vd q) (h0 : 0 ≤ z) (h1 : z < cnt q) : cnt (q ++ [z]) = cnt q :=
  cnt_old (by have := h.has z.toNat (by omega); rwa [Int.toNat_of_nonneg h0] at this)
theorem Vd.cnt_next {q : List Int} {z : Int} (h : Vd q) (h1 : z = cnt q) : cnt (q ++ [z]) = cnt q + 1 :=
  cnt_new fun hz => by have := h.bound hz; omega
instance (p : List Int) : Decidable (Vd p) := inferInstanceAs (Decidable (_ = _))
/-- The error of a partition. -/
def pck (p : List Int) : Int := if 256 < p.length then 3 else if Vd p then 0 else 1
theorem pck_limit {p : List Int} (h : 256 < p.length) : pck p = 3 := by simp [pck, h]
theorem pck_arg {p : List Int} (h : ¬ 256 < p.length) (h1 : ¬ Vd p) : pck p = 1 := by simp [pck, h, h1]
theorem pck_ok {p : List Int} (h : ¬ 256 < p.length) (h1 : Vd p) : pck p = 0 := by simp [pck, h, h1]
theorem pck_zero {p : List Int} (h : pck p = 0) : p.length ≤ 256 ∧ Vd p := by
  unfold pck at h
  split at h
  · omega
  · split at h
    · exact ⟨by omega, by assumption⟩
    · omega
theorem pck_cases (p : List Int) : pck p = 0 ∨ pck p = 1 ∨ pck p = 3 := by
  unfold pck
  split
  · exact .inr (.inr rfl)
  · split
    · exact .inl rfl
    · exact .inr (.inl rfl)
theorem not_vd {p : List Int} {k : Nat} (_h : k < p.length) (h1 : ¬ Vd (p.take (k + 1))) : ¬ Vd p := fun h2 => h1 (h2.take _)

/-- Pairs of places. -/
def Resp (ps : List (Nat × Nat)) (f : Nat → Int) : Prop := ∀ x ∈ ps, f x.1 = f x.2
/-- A list keeps the pairs together, and nothing else. -/
structure Clo (n : Nat) (ps : List (Nat × Nat)) (r : Nat → Int) : Prop where
  keeps : Resp ps r
  least : ∀ f, Resp ps f → le n r f
theorem Clo.nil_ {n : Nat} {r : Nat → Int} (h : ∀ i j, i < n → j < n → r i = r j → i = j) : Clo n [] r :=
  ⟨fun _ hx => absurd hx List.not_mem_nil, fun f _ i j hi hj e => by rw [h i j hi hj e]⟩
theorem Clo.both {n : Nat} {ps : List (Nat × Nat)} {r s : Nat → Int} (h1 : Clo n ps r) (h2 : Clo n ps s) : le n r s := h1.least s h2.keeps
theorem Clo.congr {n : Nat} {ps : List (Nat × Nat)} {r s : Nat → Int} (h : Clo n ps r) (hps : ∀ x ∈ ps, x.1 < n ∧ x.2 < n) (h1 : le n r s) (h2 : le n s r) : Clo n ps s :=
  ⟨fun x hx => h1 _ _ (hps x hx).1 (hps x hx).2 (h.keeps x hx), fun f hf => le_trans h2 (h.least f hf)⟩
/-- One pair more: two values become one. -/
theorem Clo.step {n : Nat} {ps : List (Nat × Nat)} {r s : Nat → Int} {x y : Nat} {u v : Int} (h : Clo n ps r) (hx : x < n) (hy : y < n) (hps : ∀ x ∈ ps, x.1 < n ∧ x.2 < n)
    (huv : (u = r x ∧ v = r y) ∨ (u = r y ∧ v = r x)) (hs : ∀ i, i < n → s i = if r i = u then v else r i) : Clo n (ps ++ [(x, y)]) s := by
  constructor
  · intro q hq
    rcases List.mem_append.1 hq with hq | hq
    · have := h.keeps q hq
      rw [hs _ (hps q hq).1, hs _ (hps q hq).2, this]
    · obtain rfl : q = (x, y) := by simpa using hq
      show s x = s y
      rw [hs x hx, hs y hy]
      rcases huv with ⟨rfl, rfl⟩ | ⟨rfl, rfl⟩
      · simp
      · simp
  · intro f hf i j hi hj e
    have hf1 : Resp ps f := fun q hq => hf q (List.mem_append_left _ hq)
    have hxy : f x = f y := hf (x, y) (by simp)
    have hl := h.least f hf1
    rw [hs i hi, hs j hj] at e
    have tou : ∀ k, k < n → r k = u → f k = f x := by
      intro k hk e
      rcases huv with ⟨h1, _⟩ | ⟨h1, _⟩
      · exact hl k x hk hx (by rw [e, h1])
      · rw [hxy]; exact hl k y hk hy (by rw [e, h1])
    have tov : ∀ k, k < n → r k = v → f k = f x := by
      intro k hk e
      rcases huv with ⟨_, h1⟩ | ⟨_, h1⟩
      · rw [hxy]; exact hl k y hk hy (by rw [e, h1])
      · exact hl k x hk hx (by rw [e, h1])
    by_cases h1 : r i = u
    · by_cases h2 : r j = u
      · rw [tou i hi h1, tou j hj h2]
      · rw [if_pos h1, if_neg h2] at e
        rw [tou i hi h1, tov j hj e.symm]
    · by_cases h2 : r j = u
      · rw [if_neg h1, if_pos h2] at e
        rw [tov i hi e, tou j hj h2]
      · rw [if_neg h1, if_neg h2] at e
        exact hl i j hi hj e
end Go.Proofs.YtnhibkkkpmaddaaDoor.M
