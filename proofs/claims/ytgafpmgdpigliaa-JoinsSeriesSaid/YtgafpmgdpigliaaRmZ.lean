/-
  Several texts in one: PatM, CloM, ReM, ReN, RefM. No statement is proved here.
-/
import Derived.Test.YtgafpmgdpigliaaBaZ
namespace Go.Proofs.Ytgafpmgdpigliaa.M

/-- An element of a list, 0 behind its end. -/
def gz (l : List Int) (i : Nat) : Int := l[i]?.getD 0
theorem gz_map {f : Int → Int} {l : List Int} {i : Nat} (h : i < l.length) : gz (l.map f) i = f (gz l i) := by
  simp [gz, List.getElem?_map, List.getElem?_eq_getElem h]
theorem gz_left {l r : List Int} {i : Nat} (h : i < l.length) : gz (l ++ r) i = gz l i := by
  simp [gz, List.getElem?_append_left h]
theorem gz_snoc {l : List Int} {z : Int} : gz (l ++ [z]) l.length = z := by simp [gz]
theorem gz_mem {l : List Int} {i : Nat} (h : i < l.length) : gz l i ∈ l := by
  simp [gz, List.getElem?_eq_getElem h]
theorem mem_gz {l : List Int} {z : Int} (h : z ∈ l) : ∃ i, i < l.length ∧ gz l i = z := by
  obtain ⟨i, hi, e⟩ := List.getElem_of_mem h
  exact ⟨i, hi, by simp [gz, List.getElem?_eq_getElem hi, e]⟩
theorem gz_take {l : List Int} {k i : Nat} (h : i < k) : gz (l.take k) i = gz l i := by
  simp [gz, h]
theorem ext_gz {l r : List Int} (hl : l.length = r.length) (h : ∀ i, i < l.length → gz l i = gz r i) : l = r := by
  refine List.ext_getElem hl fun i h1 h2 => ?_
  have := h i h1
  simpa [gz, List.getElem?_eq_getElem h1, List.getElem?_eq_getElem h2] using this
theorem take_gz {l : List Int} {k : Nat} (h : k < l.length) : l.take (k + 1) = l.take k ++ [gz l k] := by
  rw [List.take_add_one, List.getElem?_eq_getElem h]; simp [gz, List.getElem?_eq_getElem h]
theorem mem_take {l : List Int} {k : Nat} {z : Int} (hk : k ≤ l.length) : z ∈ l.take k ↔ ∃ i, i < k ∧ gz l i = z := by
  constructor
  · intro h
    obtain ⟨i, hi, e⟩ := mem_gz h
    rw [List.length_take] at hi
    exact ⟨i, by omega, by rw [gz_take (by omega)] at e; exact e⟩
  · rintro ⟨i, hi, rfl⟩
    rw [← gz_take hi]
    exact gz_mem (by rw [List.length_take]; omega)

/-- The values of a list in the order of their first places. -/
def dsAdd (a : List Int) (z : Int) : List Int := if z ∈ a then a else a ++ [z]
def ds (l : List Int) : List Int := l.foldl dsAdd []
theorem ds_snoc (l : List Int) (z : Int) : ds (l ++ [z]) = dsAdd (ds l) z := by simp [ds]
theorem mem_dsAdd {a : List Int} {z x : Int} : x ∈ dsAdd a z ↔ x ∈ a ∨ x = z := by
  unfold dsAdd
  split
  · constructor
    · exact .inl
    · rintro (h | rfl) <;> assumption
  · simp
theorem snoc_rec {P : List Int → Prop} (h0 : P []) (h1 : ∀ l z, P l → P (l ++ [z])) (l : List Int) : P l := by
  have : ∀ (n : Nat) (l : List Int), l.length = n → P l := by
    intro n
    induction n with
    | zero => intro l hl; rw [List.eq_nil_of_length_eq_zero hl]; exact h0
    | succ n ih =>
      intro l hl
      have hne : l ≠ [] := by intro e; subst e; simp at hl
      rw [← List.dropLast_concat_getLast hne]
      exact h1 _ _ (ih _ (by simp [hl]))
  exact this _ l rfl
theorem mem_ds {l : List Int} {z : Int} : z ∈ ds l ↔ z ∈ l := by
  induction l using snoc_rec with
  | h0 => simp [ds]
  | h1 l y ih => rw [ds_snoc, mem_dsAdd, ih]; simp
/-- The number of a value: its place among the values. -/
def nu (l : List Int) (z : Int) : Nat := (ds l).idxOf z
/-- How many different values there are. -/
def cnt (l : List Int) : Nat := (ds l).length
theorem nu_lt {l : List Int} {z : Int} (h : z ∈ l) : nu l z < cnt l := List.idxOf_lt_length_iff.2 (mem_ds.2 h)
theorem cnt_nil : cnt [] = 0 := rfl
theorem cnt_old {l : List Int} {z : Int} (h : z ∈ l) : cnt (l ++ [z]) = cnt l := by
  unfold cnt
  rw [ds_snoc, dsAdd, if_pos (mem_ds.2 h)]
theorem cnt_new {l : List Int} {z : Int} (h : ¬ z ∈ l) : cnt (l ++ [z]) = cnt l + 1 := by
  unfold cnt
  rw [ds_snoc, dsAdd, if_neg (fun h1 => h (mem_ds.1 h1))]
  simp
theorem cnt_le (l : List Int) : cnt l ≤ l.length := by
  induction l using snoc_rec with
  | h0 => simp [cnt_nil]
  | h1 l z ih =>
    by_cases h : z ∈ l
    · rw [cnt_old h]; simp; omega
    · rw [cnt_new h]; simp; omega
theorem nu_stays {l : List Int} {z y : Int} (h : z ∈ l) : nu (l ++ [y]) z = nu l z := by
  unfold nu
  rw [ds_snoc, dsAdd]
  split
  · rfl
  · rw [List.idxOf_append, if_pos (mem_ds.2 h)]
theorem nu_new {l : List Int} {z : Int} (h : ¬ z ∈ l) : nu (l ++ [z]) z = cnt l := by
  have h1 : ¬ z ∈ ds l := fun h1 => h (mem_ds.1 h1)
  unfold nu cnt
  rw [ds_snoc, dsAdd, if_neg h1, List.idxOf_append, if_neg h1]
  simp
theorem nu_old {l : List Int} {z : Int} (h : z ∈ l) : nu (l ++ [z]) z = nu l z := nu_stays h
theorem nu_inj {l : List Int} {x y : Int} (hx : x ∈ l) (hy : y ∈ l) (h : nu l x = nu l y) : x = y := by
  have h1 := nu_lt hx
  have h2 := nu_lt hy
  unfold nu cnt at *
  have e1 := List.getElem_idxOf h1
  have e2 := List.getElem_idxOf h2
  rw [← e1, ← e2]
  simp [h]
/-- The partition by equal elements. -/
def ofL (l : List Int) : List Int := l.map fun z => (nu l z : Int)
theorem ofL_len (l : List Int) : (ofL l).length = l.length := by simp [ofL]
theorem ofL_nil : ofL [] = [] := rfl
theorem ofL_gz {l : List Int} {i : Nat} (h : i < l.length) : gz (ofL l) i = nu l (gz l i) := gz_map h
theorem ofL_snoc (l : List Int) (z : Int) : ofL (l ++ [z]) = ofL l ++ [(nu (l ++ [z]) z : Int)] := by
  unfold ofL
  rw [List.map_append, List.map_singleton]
  congr 1
  refine List.map_congr_left fun x hx => ?_
  rw [nu_stays hx]
theorem ofL_take {l : List Int} {k : Nat} (h : k ≤ l.length) : ofL (l.take k) = (ofL l).take k := by
  have key : ∀ (m : Nat), m ≤ l.length → k ≤ m → ofL (l.take k) = (ofL (l.take m)).take k := by
    intro m
    induction m with
    | zero => intro _ hk; have : k = 0 := by omega
              subst this; simp [ofL_nil]
    | succ m ih =>
      intro hm hk
      rcases Nat.lt_or_ge m k with h1 | h1
      · have : k = m + 1 := by omega
        subst this
        exact (List.take_of_length_le (by rw [ofL_len, List.length_take]; omega)).symm
      · rw [take_gz (by omega), ofL_snoc, List.take_append_of_le_length (by rw [ofL_len, List.length_take]; omega)]
        exact ih (by omega) h1
  have := key l.length (Nat.le_refl _) h
  rwa [List.take_of_length_le (Nat.le_refl l.length)] at this
theorem ofL_step {l : List Int} {k : Nat} (h : k < l.length) : (ofL l).take (k + 1) = (ofL l).take k ++ [(nu (l.take (k + 1)) (gz l k) : Int)] := by
  rw [← ofL_take (by omega), ← ofL_take (by omega), take_gz h, ofL_snoc]
theorem ofL_at {l : List Int} {k : Nat} (h : k < l.length) : gz (ofL l) k = nu (l.take (k + 1)) (gz l k) := by
  have e := ofL_step h
  have e2 := take_gz (l := ofL l) (k := k) (by rw [ofL_len]; exact h)
  rw [e] at e2
  have := List.append_cancel_left e2
  simpa using this.symm

/-- Over the first n places: whatever the first one has alike, the second one has alike. -/
def le (n : Nat) (f g : Nat → Int) : Prop := ∀ i j, i < n → j < n → f i = f j → g i = g j
theorem le_refl (n : Nat) (f : Nat → Int) : le n f f := fun _ _ _ _ h => h
theorem le_trans {n : Nat} {f g h : Nat → Int} (h1 : le n f g) (h2 : le n g h) : le n f h := fun i j hi hj e => h2 i j hi hj (h1 i j hi hj e)
theorem le_ofL (l : List Int) : le l.length (gz l) (gz (ofL l)) := fun i j hi hj e => by rw [ofL_gz hi, ofL_gz hj, e]
theorem ofL_le (l : List Int) : le l.length (gz (ofL l)) (gz l) := fun i j hi hj e => by
  rw [ofL_gz hi, ofL_gz hj] at e
  exact nu_inj (gz_mem hi) (gz_mem hj) (by omega)
theorem congr_both (l : List Int) : ∀ r : List Int, l.length = r.length → le l.length (gz l) (gz r) → le l.length (gz r) (gz l) → ofL l = ofL r ∧ cnt l = cnt r := by
  induction l using snoc_rec with
  | h0 =>
    intro r hl _ _
    have : r = [] := List.eq_nil_of_length_eq_zero (by simpa using hl.symm)
    subst this
    exact ⟨rfl, rfl⟩
  | h1 l z ih =>
    intro r hl h1 h2
    have hne : r ≠ [] := by intro e; subst e; simp at hl
    obtain ⟨r', y, rfl⟩ : ∃ r' y, r = r' ++ [y] := ⟨_, _, (List.dropLast_concat_getLast hne).symm⟩
    have hl' : l.length = r'.length := by simpa using hl
    have gl : ∀ i, i < l.length → gz (l ++ [z]) i = gz l i := fun i hi => gz_left hi
    have gr : ∀ i, i < l.length → gz (r' ++ [y]) i = gz r' i := fun i hi => gz_left (by omega)
    have zl : gz (l ++ [z]) l.length = z := gz_snoc
    have zr : gz (r' ++ [y]) l.length = y := by rw [hl']; exact gz_snoc
    have hn : (l ++ [z]).length = l.length + 1 := by simp
    rw [hn] at h1 h2
    obtain ⟨e1, e2⟩ := ih r' hl' (fun i j hi hj e => by have := h1 i j (by omega) (by omega); rw [gl i hi, gl j hj, gr i hi, gr j hj] at this; exact this e) (fun i j hi hj e => by have := h2 i j (by omega) (by omega); rw [gl i hi, gl j hj, gr i hi, gr j hj] at this; exact this e)
    rw [ofL_snoc, ofL_snoc, e1]
    by_cases hz : z ∈ l
    · obtain ⟨i, hi, ei⟩ := mem_gz hz
      have ey : gz r' i = y := by
        have := h1 i l.length (by omega) (by omega)
        rw [gl i hi, zl, gr i hi, zr] at this
        exact this ei
      have hy : y ∈ r' := by rw [← ey]; exact gz_mem (by omega)
      rw [nu_old hz, nu_old hy, cnt_old hz, cnt_old hy]
      refine ⟨?_, e2⟩
      have := congrArg (gz · i) e1
      simp only [ofL_gz hi, ofL_gz (show i < r'.length by omega), ei, ey] at this
      rw [this]
    · have hy : ¬ y ∈ r' := by
        intro hy
        obtain ⟨i, hi, ei⟩ := mem_gz hy
        have := h2 i l.length (by omega) (by omega)
        rw [gl i (by omega), zl, gr i (by omega), zr] at this
        have := this ei
        exact hz (this ▸ gz_mem (by omega))
      rw [nu_new hz, nu_new hy, cnt_new hz, cnt_new hy, e2]
      exact ⟨rfl, rfl⟩
/-- Lists that are alike at the same places have the same partition. -/
theorem ofL_congr {l r : List Int} (hl : l.length = r.length) (h1 : le l.length (gz l) (gz r)) (h2 : le l.length (gz r) (gz l)) : ofL l = ofL r := (congr_both l r hl h1 h2).1
theorem ofL_ofL (l : List Int) : ofL (ofL l) = ofL l := ofL_congr (ofL_len l) (by rw [ofL_len]; exact ofL_le l) (by rw [ofL_len]; exact le_ofL l)
theorem cnt_ofL (l : List Int) : cnt (ofL l) = cnt l := (congr_both _ _ (ofL_len l) (by rw [ofL_len]; exact ofL_le l) (by rw [ofL_len]; exact le_ofL l)).2
/-- A list is a partition. -/
def Vd (p : List Int) : Prop := ofL p = p
theorem Vd.nil_ : Vd [] := rfl
theorem Vd.of_ (l : List Int) : Vd (ofL l) := ofL_ofL l
theorem Vd.take {p : List Int} (h : Vd p) (k : Nat) : Vd (p.take k) := by
  rcases Nat.lt_or_ge p.length k with h1 | h1
  · rw [List.take_of_length_le (by omega)]; exact h
  · unfold Vd
    rw [ofL_take h1, h]
theorem vd_snoc {q : List Int} {z : Int} : Vd (q ++ [z]) ↔ Vd q ∧ z = nu (q ++ [z]) z := by
  unfold Vd
  rw [ofL_snoc]
  constructor
  · intro h
    have := List.append_inj' h rfl
    exact ⟨this.1, by simpa using this.2.symm⟩
  · rintro ⟨h1, h2⟩
    rw [h1, ← h2]
theorem Vd.mem {p : List Int} (h : Vd p) {z : Int} (hz : z ∈ p) : z = nu p z := by
  obtain ⟨i, hi, e⟩ := mem_gz hz
  have := ofL_gz hi
  rw [h, e] at this
  exact this
theorem Vd.bound {p : List Int} (h : Vd p) {z : Int} (hz : z ∈ p) : 0 ≤ z ∧ z < cnt p := by
  have h1 := h.mem hz
  have h2 := nu_lt hz
  omega
/-- The values of a partition are the numbers below how many there are. -/
theorem Vd.has {p : List Int} (h : Vd p) : ∀ (k : Nat), k < cnt p → (k : Int) ∈ p := by
  induction p using snoc_rec with
  | h0 => intro k hk; simp [cnt_nil] at hk
  | h1 q z ih =>
    intro k hk
    obtain ⟨h1, h2⟩ := vd_snoc.1 h
    by_cases hz : z ∈ q
    · rw [cnt_old hz] at hk
      exact List.mem_append_left _ (ih h1 k hk)
    · rw [cnt_new hz] at hk
      rw [nu_new hz] at h2
      rcases Nat.lt_or_ge k (cnt q) with h3 | h3
      · exact List.mem_append_left _ (ih h1 k h3)
      · have : (k : Int) = z := by omega
        rw [this]; simp
/-- The next block of a partition: one that is there, or the next number. -/
theorem vd_step {q : List Int} {z : Int} (h : Vd q) : Vd (q ++ [z]) ↔ 0 ≤ z ∧ z ≤ cnt q := by
  rw [vd_snoc]
  constructor
  · rintro ⟨_, h2⟩
    by_cases hz : z ∈ q
    · have := h.bound hz; omega
    · rw [nu_new hz] at h2; omega
  · rintro ⟨h1, h2⟩
    refine ⟨h, ?_⟩
    by_cases hz : z ∈ q
    · rw [nu_old hz]; exact h.mem hz
    · rw [nu_new hz]
      rcases Int.lt_or_le z (cnt q) with h3 | h3
      · exact absurd (by have := h.has z.toNat (by omega); rwa [Int.toNat_of_nonneg h1] at this) hz
      · omega
theorem Vd.cnt_same {q : List Int} {z : Int} (h : Vd q) (h0 : 0 ≤ z) (h1 : z < cnt q) : cnt (q ++ [z]) = cnt q :=
  cnt_old (by have := h.has z.toNat (by omega); rwa [Int.toNat_of_nonneg h0] at this)
theorem Vd.cnt_next {q : List Int} {z : Int} (h : Vd q) (h1 : z = cnt q) : cnt (q ++ [z]) = cnt q + 1 :=
  cnt_new fun hz => by have := h.bound hz; omega
instance (p : List Int) : Decidable (Vd p) := inferInstanceAs (Decidable (_ = _))
/-- The error of a partition. -/
def pck (p : List Int) : Int := if 256 < p.length then 3 else if Vd p then 0 else 1
theorem pck_limit {p : List Int} (h : 256 < p.length) : pck p = 3 := by simp [pck, h]
theorem pck_arg {p : List Int} (h : ¬ 256 < p.length) (h1 : ¬ Vd p) : pck p = 1 := by simp [pck, h, h1]
theorem pck_ok {p : List Int} (h : ¬ 256 < p.length) (h1 : Vd p) : pck p = 0 := by simp [pck, h, h1]
theorem pck_zero {p : List Int} (h : pck p = 0) : p.length ≤ 256 ∧ Vd p := by
  unfold pck at h
  split at h
  · omega
  · split at h
    · exact ⟨by omega, by assumption⟩
    · omega
theorem pck_cases (p : List Int) : pck p = 0 ∨ pck p = 1 ∨ pck p = 3 := by
  unfold pck
  split
  · exact .inr (.inr rfl)
  · split
    · exact .inl rfl
    · exact .inr (.inl rfl)
theorem not_vd {p : List Int} {k : Nat} (_h : k < p.length) (h1 : ¬ Vd (p.take (k + 1))) : ¬ Vd p := fun h2 => h1 (h2.take _)

/-- Pairs of places. -/
def Resp (ps : List (Nat × Nat)) (f : Nat → Int) : Prop := ∀ x ∈ ps, f x.1 = f x.2
/-- A list keeps the pairs together, and nothing else. -/
structure Clo (n : Nat) (ps : List (Nat × Nat)) (r : Nat → Int) : Prop where
  keeps : Resp ps r
  least : ∀ f, Resp ps f → le n r f
theorem Clo.nil_ {n : Nat} {r : Nat → Int} (h : ∀ i j, i < n → j < n → r i = r j → i = j) : Clo n [] r :=
  ⟨fun _ hx => absurd hx List.not_mem_nil, fun f _ i j hi hj e => by rw [h i j hi hj e]⟩
theorem Clo.both {n : Nat} {ps : List (Nat × Nat)} {r s : Nat → Int} (h1 : Clo n ps r) (h2 : Clo n ps s) : le n r s := h1.least s h2.keeps
theorem Clo.congr {n : Nat} {ps : List (Nat × Nat)} {r s : Nat → Int} (h : Clo n ps r) (hps : ∀ x ∈ ps, x.1 < n ∧ x.2 < n) (h1 : le n r s) (h2 : le n s r) : Clo n ps s :=
  ⟨fun x hx => h1 _ _ (hps x hx).1 (hps x hx).2 (h.keeps x hx), fun f hf => le_trans h2 (h.least f hf)⟩
/-- One pair more: two values become one. -/
theorem Clo.step {n : Nat} {ps : List (Nat × Nat)} {r s : Nat → Int} {x y : Nat} {u v : Int} (h : Clo n ps r) (hx : x < n) (hy : y < n) (hps : ∀ x ∈ ps, x.1 < n ∧ x.2 < n)
    (huv : (u = r x ∧ v = r y) ∨ (u = r y ∧ v = r x)) (hs : ∀ i, i < n → s i = if r i = u then v else r i) : Clo n (ps ++ [(x, y)]) s := by
  constructor
  · intro q hq
    rcases List.mem_append.1 hq with hq | hq
    · have := h.keeps q hq
      rw [hs _ (hps q hq).1, hs _ (hps q hq).2, this]
    · obtain rfl : q = (x, y) := by simpa using hq
      show s x = s y
      rw [hs x hx, hs y hy]
      rcases huv with ⟨rfl, rfl⟩ | ⟨rfl, rfl⟩
      · simp
      · simp
  · intro f hf i j hi hj e
    have hf1 : Resp ps f := fun q hq => hf q (List.mem_append_left _ hq)
    have hxy : f x = f y := hf (x, y) (by simp)
    have hl := h.least f hf1
    rw [hs i hi, hs j hj] at e
    have tou : ∀ k, k < n → r k = u → f k = f x := by
      intro k hk e
      rcases huv with ⟨h1, _⟩ | ⟨h1, _⟩
      · exact hl k x hk hx (by rw [e, h1])
      · rw [hxy]; exact hl k y hk hy (by rw [e, h1])
    have tov : ∀ k, k < n → r k = v → f k = f x := by
      intro k hk e
      rcases huv with ⟨_, h1⟩ | ⟨_, h1⟩
      · rw [hxy]; exact hl k y hk hy (by rw [e, h1])
      · exact hl k x hk hx (by rw [e, h1])
    by_cases h1 : r i = u
    · by_cases h2 : r j = u
      · rw [tou i hi h1, tou j hj h2]
      · rw [if_pos h1, if_neg h2] at e
        rw [tou i hi h1, tov j hj e.symm]
    · by_cases h2 : r j = u
      · rw [if_neg h1, if_pos h2] at e
        rw [tov i hi e, tou j hj h2]
      · rw [if_neg h1, if_neg h2] at e
        exact hl i j hi hj e
end Go.Proofs.Ytgafpmgdpigliaa.M

namespace Go.Proofs.Ytgafpmgdpigliaa.M

def Rng (n : Nat) (ps : List (Nat × Nat)) : Prop := ∀ x ∈ ps, x.1 < n ∧ x.2 < n
/-- The numbers below n. -/
def iota (n : Nat) : List Int := (List.range n).map Int.ofNat
theorem iota_len (n : Nat) : (iota n).length = n := by simp [iota]
theorem iota_gz {n i : Nat} (h : i < n) : gz (iota n) i = i := by
  simp [iota, gz, h]
theorem iota_snoc (n : Nat) : iota (n + 1) = iota n ++ [(n : Int)] := by simp [iota, List.range_succ]
/-- Two numbers become one: the reference's way. -/
def ins (l : List Int) (x y : Nat) : List Int := l.map fun z => if z = gz l y then gz l x else z
def closeR (n : Nat) (ps : List (Nat × Nat)) : List Int := ps.foldl (fun l q => ins l q.1 q.2) (iota n)
theorem closeR_snoc (n : Nat) (ps : List (Nat × Nat)) (q : Nat × Nat) : closeR n (ps ++ [q]) = ins (closeR n ps) q.1 q.2 := by simp [closeR]
theorem closeR_nil (n : Nat) : closeR n [] = iota n := rfl
theorem ins_len (l : List Int) (x y : Nat) : (ins l x y).length = l.length := by simp [ins]
theorem prec {α : Type} {P : List α → Prop} (h0 : P []) (h1 : ∀ l z, P l → P (l ++ [z])) (l : List α) : P l := by
  have : ∀ (n : Nat) (l : List α), l.length = n → P l := by
    intro n
    induction n with
    | zero => intro l hl; rw [List.eq_nil_of_length_eq_zero hl]; exact h0
    | succ n ih =>
      intro l hl
      have hne : l ≠ [] := by intro e; subst e; simp at hl
      rw [← List.dropLast_concat_getLast hne]
      exact h1 _ _ (ih _ (by simp [hl]))
  exact this _ l rfl
theorem closeR_len (n : Nat) (ps : List (Nat × Nat)) : (closeR n ps).length = n := by
  induction ps using prec with
  | h0 => exact iota_len n
  | h1 l q ih => rw [closeR_snoc, ins_len, ih]
theorem closeR_clo {n : Nat} {ps : List (Nat × Nat)} (h : Rng n ps) : Clo n ps (gz (closeR n ps)) := by
  induction ps using prec with
  | h0 =>
    refine Clo.nil_ fun i j hi hj e => ?_
    rw [closeR_nil, iota_gz hi, iota_gz hj] at e
    omega
  | h1 l q ih =>
    have hl : Rng n l := fun x hx => h x (List.mem_append_left _ hx)
    have hq := h q (by simp)
    refine (ih hl).step (x := q.1) (y := q.2) (u := gz (closeR n l) q.2) (v := gz (closeR n l) q.1) hq.1 hq.2 hl (.inr ⟨rfl, rfl⟩) fun i hi => ?_
    rw [closeR_snoc]
    exact gz_map (by rw [closeR_len]; exact hi)
/-- The finest partition in which pairs are together. -/
def close (n : Nat) (ps : List (Nat × Nat)) : List Int := ofL (closeR n ps)
theorem close_len (n : Nat) (ps : List (Nat × Nat)) : (close n ps).length = n := by rw [close, ofL_len, closeR_len]
theorem close_vd (n : Nat) (ps : List (Nat × Nat)) : Vd (close n ps) := Vd.of_ _
theorem close_of {n : Nat} {ps : List (Nat × Nat)} {l : List Int} (h : Rng n ps) (hl : l.length = n) (hc : Clo n ps (gz l)) : ofL l = close n ps :=
  ofL_congr (by rw [hl, closeR_len]) (by rw [hl]; exact hc.both (closeR_clo h)) (by rw [hl]; exact (closeR_clo h).both hc)
theorem close_clo {n : Nat} {ps : List (Nat × Nat)} (h : Rng n ps) : Clo n ps (gz (close n ps)) :=
  (closeR_clo h).congr h (by have := le_ofL (closeR n ps); rwa [closeR_len] at this) (by have := ofL_le (closeR n ps); rwa [closeR_len] at this)

/-- Where a number leads to, going down. -/
def root (d : List Int) (i : Nat) : Nat := if _h : (gz d i).toNat < i then root d (gz d i).toNat else i
termination_by i
def Dn (n : Nat) (d : List Int) : Prop := d.length = n ∧ ∀ i, i < n → 0 ≤ gz d i ∧ gz d i ≤ i
theorem root_self {d : List Int} {i : Nat} (h : gz d i = i) : root d i = i := by
  rw [root]; rw [dif_neg (by omega)]
theorem root_down {n : Nat} {d : List Int} {i : Nat} (hd : Dn n d) (hi : i < n) (h : gz d i ≠ i) : (gz d i).toNat < i ∧ root d i = root d (gz d i).toNat := by
  have := hd.2 i hi
  have h1 : (gz d i).toNat < i := by omega
  refine ⟨h1, ?_⟩
  rw [root, dif_pos h1]
theorem root_le (d : List Int) (i : Nat) : root d i ≤ i := by
  induction i using Nat.strongRecOn with
  | ind i ih =>
    rw [root]
    split
    · rename_i h; have := ih _ h; omega
    · omega
theorem root_fix {n : Nat} {d : List Int} (hd : Dn n d) (i : Nat) (hi : i < n) : gz d (root d i) = root d i := by
  induction i using Nat.strongRecOn with
  | ind i ih =>
    by_cases h : gz d i = i
    · rw [root_self h]; exact h
    · obtain ⟨h1, h2⟩ := root_down hd hi h
      rw [h2]
      exact ih _ h1 (by omega)
theorem gz_set {l : List Int} {k i : Nat} {z : Int} (hk : k < l.length) : gz (l.set k z) i = if i = k then z else gz l i := by
  unfold gz
  rw [List.getElem?_set]
  by_cases h : k = i
  · subst h; simp [hk]
  · have : ¬ i = k := fun e => h e.symm
    simp [h, this]
theorem Dn.set_ {n : Nat} {d : List Int} (hd : Dn n d) {k m : Nat} (hk : k < n) (hm : m ≤ k) : Dn n (d.set k m) := by
  refine ⟨by rw [List.length_set]; exact hd.1, fun i hi => ?_⟩
  rw [gz_set (by rw [hd.1]; exact hk)]
  split
  · subst_vars; omega
  · exact hd.2 i hi
theorem root_set {n : Nat} {d : List Int} (hd : Dn n d) {k m : Nat} (hk : k < n) (hm : m ≤ k) (hf : gz d m = m) (h : root d k = k ∨ m = root d k) (i : Nat) (hi : i < n) :
    root (d.set k m) i = if root d i = root d k then m else root d i := by
  have hd' := hd.set_ hk hm
  have hg : ∀ j, gz (d.set k m) j = if j = k then (m : Int) else gz d j := fun j => gz_set (by rw [hd.1]; exact hk)
  induction i using Nat.strongRecOn with
  | ind i ih =>
    by_cases e : i = k
    · subst e
      rw [if_pos rfl]
      by_cases e2 : m = i
      · subst e2
        exact root_self (by rw [hg, if_pos rfl])
      · have h1 : gz (d.set i m) i = m := by rw [hg, if_pos rfl]
        obtain ⟨_, h2⟩ := root_down hd' hi (by rw [h1]; omega)
        rw [h2, h1, Int.toNat_natCast]
        exact root_self (by rw [hg, if_neg e2]; exact hf)
    · have h1 : gz (d.set k m) i = gz d i := by rw [hg, if_neg e]
      by_cases e2 : gz d i = i
      · rw [root_self (h1.trans e2), root_self e2]
        split
        · rename_i e3
          rcases h with h | h
          · exact absurd (e3.trans h) e
          · rw [e3, h]
        · rfl
      · obtain ⟨h2, h3⟩ := root_down hd hi e2
        obtain ⟨_, h4⟩ := root_down hd' hi (by rw [h1]; exact e2)
        rw [h4, h3, h1]
        exact ih _ h2 (by omega)
/-- The state of Close's first loop: what leads down has the pairs together. -/
structure Uf (n : Nat) (ps : List (Nat × Nat)) (d : List Int) : Prop where
  dn : Dn n d
  clo : Clo n ps fun i => (root d i : Int)
theorem Uf.start (n : Nat) : Uf n [] (iota n) := by
  have h : ∀ i, i < n → root (iota n) i = i := fun i hi => root_self (iota_gz hi)
  refine ⟨⟨iota_len n, fun i hi => by rw [iota_gz hi]; omega⟩, Clo.nil_ fun i j hi hj e => ?_⟩
  rw [h i hi, h j hj] at e
  omega
theorem Uf.step {n : Nat} {ps : List (Nat × Nat)} {d : List Int} {x y : Nat} (h : Uf n ps d) (hr : Rng n ps) (hx : x < n) (hy : y < n) :
    Uf n (ps ++ [(x, y)]) (d.set (max (root d x) (root d y)) (min (root d x) (root d y) : Nat)) := by
  have fx := root_fix h.dn x hx
  have fy := root_fix h.dn y hy
  have lx := root_le d x
  have ly := root_le d y
  have key : ∀ (a b : Nat), (a = root d x ∧ b = root d y) ∨ (a = root d y ∧ b = root d x) → b ≤ a → Uf n (ps ++ [(x, y)]) (d.set a (b : Nat)) := by
    intro a b hab hle
    have ha : a < n := by omega
    have hb : gz d b = b := by rcases hab with ⟨_, rfl⟩ | ⟨_, rfl⟩ <;> assumption
    have haa : root d a = a := root_self (by rcases hab with ⟨rfl, _⟩ | ⟨rfl, _⟩ <;> assumption)
    refine ⟨h.dn.set_ ha hle, h.clo.step (u := (a : Int)) (v := (b : Int)) hx hy hr ?_ fun i hi => ?_⟩
    · rcases hab with ⟨rfl, rfl⟩ | ⟨rfl, rfl⟩
      · exact .inl ⟨rfl, rfl⟩
      · exact .inr ⟨rfl, rfl⟩
    · show ((root (d.set a (b : Nat)) i : Nat) : Int) = if (root d i : Int) = a then (b : Int) else root d i
      rw [root_set h.dn ha hle hb (.inl haa) i hi, haa]
      by_cases e : root d i = a
      · rw [if_pos e, if_pos (by omega)]
      · have : ¬ (root d i : Int) = a := by omega
        rw [if_neg e, if_neg this]
  rcases Nat.le_total (root d x) (root d y) with h1 | h1
  · rw [Nat.max_eq_right h1, Nat.min_eq_left h1]
    exact key _ _ (.inr ⟨rfl, rfl⟩) h1
  · rw [Nat.max_eq_left h1, Nat.min_eq_right h1]
    exact key _ _ (.inl ⟨rfl, rfl⟩) h1
/-- The state of Close's second loop: the first k lead straight to the ends. -/
structure Uz (n : Nat) (d0 d : List Int) (k : Nat) : Prop where
  dn : Dn n d
  same : ∀ i, i < n → root d i = root d0 i
  done : ∀ i, i < k → gz d i = root d0 i
theorem Uz.start {n : Nat} {d : List Int} (h : Dn n d) : Uz n d d 0 := ⟨h, fun _ _ => rfl, fun i hi => absurd hi (Nat.not_lt_zero i)⟩
theorem Uz.step {n : Nat} {d0 d : List Int} {k : Nat} (h : Uz n d0 d k) (hk : k < n) : Uz n d0 (d.set k (root d k : Nat)) (k + 1) := by
  have hle := root_le d k
  refine ⟨h.dn.set_ hk hle, fun i hi => ?_, fun i hi => ?_⟩
  · rw [root_set h.dn hk hle (root_fix h.dn k hk) (.inr rfl) i hi, ← h.same i hi]
    split
    · rename_i e; exact e.symm
    · rfl
  · rw [gz_set (by rw [h.dn.1]; exact hk)]
    split
    · subst_vars
      rw [h.same i hk]
    · exact h.done i (by omega)
theorem Uz.fin {n : Nat} {ps : List (Nat × Nat)} {d0 d : List Int} (h : Uz n d0 d n) (hu : Uf n ps d0) (hr : Rng n ps) : ofL d = close n ps :=
  close_of hr h.dn.1 (hu.clo.congr hr (fun i j hi hj e => by rw [h.done i hi, h.done j hj]; exact e) (fun i j hi hj e => by rw [h.done i hi, h.done j hj] at e; exact e))

/-- What the meet of two lists is. -/
def Mt (n : Nat) (p q r : Nat → Int) : Prop := le n r p ∧ le n r q ∧ ∀ f, le n f p → le n f q → le n f r
theorem mt_of {n : Nat} {p q r : Nat → Int} (h : ∀ i j, i < n → j < n → (r i = r j ↔ p i = p j ∧ q i = q j)) : Mt n p q r :=
  ⟨fun i j hi hj e => ((h i j hi hj).1 e).1, fun i j hi hj e => ((h i j hi hj).1 e).2, fun _ h1 h2 i j hi hj e => (h i j hi hj).2 ⟨h1 i j hi hj e, h2 i j hi hj e⟩⟩
/-- What the pjoin of two lists is. -/
def Jn (n : Nat) (p q r : Nat → Int) : Prop := le n p r ∧ le n q r ∧ ∀ f, le n p f → le n q f → le n r f
/-- Partitions that are finer than each other are one. -/
theorem anti {l r : List Int} (h1 : Vd l) (h2 : Vd r) (hl : l.length = r.length) (a : le l.length (gz l) (gz r)) (b : le l.length (gz r) (gz l)) : l = r := by
  have := ofL_congr hl a b
  rwa [h1, h2] at this
/-- The meet: the reference's way. -/
def meetR (p q : List Int) : List Int := (List.range p.length).map fun i => gz p i * 1000 + gz q i
theorem meetR_len (p q : List Int) : (meetR p q).length = p.length := by simp [meetR]
theorem meetR_gz {p q : List Int} {i : Nat} (h : i < p.length) : gz (meetR p q) i = gz p i * 1000 + gz q i := by
  simp [meetR, gz, h]
def meet (p q : List Int) : List Int := ofL (meetR p q)
theorem meet_len (p q : List Int) : (meet p q).length = p.length := by rw [meet, ofL_len, meetR_len]
theorem meet_vd (p q : List Int) : Vd (meet p q) := Vd.of_ _
/-- Both are partitions of as many numbers, at most 256. -/
structure Two (p q : List Int) : Prop where
  left : Vd p
  right : Vd q
  same : p.length = q.length
  most : p.length ≤ 256
theorem Two.swap {p q : List Int} (h : Two p q) : Two q p := ⟨h.right, h.left, h.same.symm, by have := h.most; have := h.same; omega⟩
theorem vd_gz {p : List Int} (h : Vd p) {i : Nat} (hi : i < p.length) : 0 ≤ gz p i ∧ gz p i < p.length := by
  have := h.bound (gz_mem hi)
  have := cnt_le p
  omega
theorem Two.meetR_mt {p q : List Int} (h : Two p q) : ∀ i j, i < p.length → j < p.length → (gz (meetR p q) i = gz (meetR p q) j ↔ gz p i = gz p j ∧ gz q i = gz q j) := by
  intro i j hi hj
  rw [meetR_gz hi, meetR_gz hj]
  have h1 := h.same
  have h2 := h.most
  have a := vd_gz h.right (i := i) (by omega)
  have b := vd_gz h.right (i := j) (by omega)
  omega
theorem Two.meet_of {p q l : List Int} (h : Two p q) (hl : l.length = p.length) (hm : ∀ i j, i < p.length → j < p.length → (gz l i = gz l j ↔ gz p i = gz p j ∧ gz q i = gz q j)) : ofL l = meet p q :=
  ofL_congr (by rw [hl, meetR_len]) (by rw [hl]; exact fun i j hi hj e => (h.meetR_mt i j hi hj).2 ((hm i j hi hj).1 e)) (by rw [hl]; exact fun i j hi hj e => (hm i j hi hj).2 ((h.meetR_mt i j hi hj).1 e))
theorem Two.meet_mt {p q : List Int} (h : Two p q) : Mt p.length (gz p) (gz q) (gz (meet p q)) := by
  have h1 := le_ofL (meetR p q)
  have h2 := ofL_le (meetR p q)
  rw [meetR_len] at h1 h2
  exact mt_of fun i j hi hj => ⟨fun e => (h.meetR_mt i j hi hj).1 (h2 i j hi hj e), fun e => h1 i j hi hj ((h.meetR_mt i j hi hj).2 e)⟩

/-- The first place of each number's block, and the number: the program's pairs. -/
def lk (p : List Int) : List (Nat × Nat) := (List.range p.length).map fun i => (p.idxOf (gz p i), i)
theorem idx_lt {p : List Int} {i : Nat} (h : i < p.length) : p.idxOf (gz p i) < p.length := List.idxOf_lt_length_iff.2 (gz_mem h)
theorem idx_gz {p : List Int} {i : Nat} (h : i < p.length) : gz p (p.idxOf (gz p i)) = gz p i := by
  have h1 := idx_lt h
  have := List.getElem_idxOf h1
  show (p[p.idxOf (gz p i)]?).getD 0 = gz p i
  rw [List.getElem?_eq_getElem h1]
  exact this
theorem lk_rng (p : List Int) : Rng p.length (lk p) := by
  intro x hx
  obtain ⟨i, hi, rfl⟩ := List.mem_map.1 hx
  have := List.mem_range.1 hi
  exact ⟨idx_lt this, this⟩
theorem lk_resp (p : List Int) (f : Nat → Int) : Resp (lk p) f ↔ le p.length (gz p) f := by
  constructor
  · intro h i j hi hj e
    have a := h (p.idxOf (gz p i), i) (List.mem_map.2 ⟨i, List.mem_range.2 hi, rfl⟩)
    have b := h (p.idxOf (gz p j), j) (List.mem_map.2 ⟨j, List.mem_range.2 hj, rfl⟩)
    simp only at a b
    rw [← a, ← b, e]
  · intro h x hx
    obtain ⟨i, hi, rfl⟩ := List.mem_map.1 hx
    have := List.mem_range.1 hi
    exact h _ _ (idx_lt this) this (idx_gz this)
/-- The reference's pairs: whatever one of both has together. -/
def rpRow (p q : List Int) (i : Nat) (m : Nat) : List (Nat × Nat) := ((List.range m).filter fun k => gz p i == gz p k || gz q i == gz q k).map fun k => (k, i)
def rp (p q : List Int) (n : Nat) : List (Nat × Nat) := (List.range n).flatMap fun i => rpRow p q i i
theorem mem_rp {p q : List Int} {n : Nat} {x : Nat × Nat} : x ∈ rp p q n ↔ x.2 < n ∧ x.1 < x.2 ∧ (gz p x.2 = gz p x.1 ∨ gz q x.2 = gz q x.1) := by
  obtain ⟨a, b⟩ := x
  simp [rp, rpRow, List.mem_flatMap]
  constructor
  · rintro ⟨i, hi, k, ⟨hk, h⟩, rfl, rfl⟩
    exact ⟨hi, hk, h⟩
  · rintro ⟨h1, h2, h3⟩
    exact ⟨b, h1, a, ⟨h2, h3⟩, rfl, rfl⟩
theorem rp_rng (p q : List Int) (n : Nat) : Rng n (rp p q n) := fun x hx => by have := mem_rp.1 hx; omega
theorem rp_resp (p q : List Int) (n : Nat) (f : Nat → Int) : Resp (rp p q n) f ↔ le n (gz p) f ∧ le n (gz q) f := by
  constructor
  · intro h
    refine ⟨fun i j hi hj e => ?_, fun i j hi hj e => ?_⟩
    all_goals
      rcases Nat.lt_trichotomy i j with h1 | h1 | h1
      · exact h (i, j) (mem_rp.2 ⟨hj, h1, by simp [e]⟩)
      · rw [h1]
      · exact (h (j, i) (mem_rp.2 ⟨hi, h1, by simp [e]⟩)).symm
  · rintro ⟨h1, h2⟩ x hx
    obtain ⟨a, b, c | c⟩ := mem_rp.1 hx
    · exact h1 _ _ (by omega) a c.symm
    · exact h2 _ _ (by omega) a c.symm
def pjoin (p q : List Int) : List Int := close p.length (rp p q p.length)
theorem join_len (p q : List Int) : (pjoin p q).length = p.length := close_len _ _
theorem join_vd (p q : List Int) : Vd (pjoin p q) := close_vd _ _
theorem rng_app {n : Nat} {a b : List (Nat × Nat)} (h1 : Rng n a) (h2 : Rng n b) : Rng n (a ++ b) := fun x hx => (List.mem_append.1 hx).elim (h1 x) (h2 x)
theorem resp_app {a b : List (Nat × Nat)} {f : Nat → Int} : Resp (a ++ b) f ↔ Resp a f ∧ Resp b f :=
  ⟨fun h => ⟨fun x hx => h x (List.mem_append_left _ hx), fun x hx => h x (List.mem_append_right _ hx)⟩, fun h x hx => (List.mem_append.1 hx).elim (h.1 x) (h.2 x)⟩
theorem join_links {p q : List Int} (h : p.length = q.length) : close p.length (lk p ++ lk q) = pjoin p q := by
  have hr : Rng p.length (lk p ++ lk q) := rng_app (lk_rng p) (by rw [h]; exact lk_rng q)
  have c := closeR_clo hr
  refine close_of (rp_rng _ _ _) (closeR_len _ _) ⟨?_, fun f hf => c.least f ?_⟩
  · rw [rp_resp]
    have := resp_app.1 c.keeps
    rw [lk_resp, lk_resp, ← h] at this
    exact this
  · rw [rp_resp] at hf
    rw [resp_app, lk_resp, lk_resp, ← h]
    exact hf
theorem join_jn (p q : List Int) : Jn p.length (gz p) (gz q) (gz (pjoin p q)) := by
  have c := close_clo (rp_rng p q p.length)
  have := (rp_resp p q p.length _).1 c.keeps
  exact ⟨this.1, this.2, fun f h1 h2 => c.least f ((rp_resp p q p.length f).2 ⟨h1, h2⟩)⟩
/-- Is the first one finer? -/
def fin (p q : List Int) : Prop := le p.length (gz p) (gz q)
theorem join_comm {p q : List Int} (h : p.length = q.length) : pjoin p q = pjoin q p := by
  have a := join_jn p q
  have b := join_jn q p
  rw [← h] at b
  refine anti (join_vd _ _) (join_vd _ _) (by rw [join_len, join_len, h]) ?_ ?_
  · rw [join_len]; exact a.2.2 _ b.2.1 b.1
  · rw [join_len]; exact b.2.2 _ a.2.1 a.1
theorem meet_comm {p q : List Int} (h : Two p q) : meet p q = meet q p := by
  have a := h.meet_mt
  have b := h.swap.meet_mt
  rw [← h.same] at b
  refine anti (meet_vd _ _) (meet_vd _ _) (by rw [meet_len, meet_len, h.same]) ?_ ?_
  · rw [meet_len]; exact b.2.2 _ a.2.1 a.1
  · rw [meet_len]; exact a.2.2 _ b.2.1 b.1
theorem two_meet {p q r : List Int} (h1 : Two p q) (h2 : Two p r) : Two (meet p q) r := ⟨meet_vd _ _, h2.right, by rw [meet_len, h2.same], by rw [meet_len]; exact h1.most⟩
theorem two_join {p q r : List Int} (h1 : Two p q) (h2 : Two p r) : Two (pjoin p q) r := ⟨join_vd _ _, h2.right, by rw [join_len, h2.same], by rw [join_len]; exact h1.most⟩
theorem two_qr {p q r : List Int} (h1 : Two p q) (h2 : Two p r) : Two q r := ⟨h1.right, h2.right, by rw [← h1.same, h2.same], by rw [← h1.same]; exact h1.most⟩
theorem meet_assoc {p q r : List Int} (h1 : Two p q) (h2 : Two p r) : meet (meet p q) r = meet p (meet q r) := by
  have h3 := two_qr h1 h2
  have a := h1.meet_mt
  have b := (two_meet h1 h2).meet_mt
  have c := h3.meet_mt
  have d := (Two.swap (two_meet h3 h1.swap)).meet_mt
  rw [meet_len] at b
  rw [← h1.same] at c
  refine anti (meet_vd _ _) (meet_vd _ _) (by rw [meet_len, meet_len, meet_len]) ?_ ?_
  · rw [meet_len, meet_len]
    exact d.2.2 _ (le_trans b.1 a.1) (c.2.2 _ (le_trans b.1 a.2.1) b.2.1)
  · rw [meet_len, meet_len]
    exact b.2.2 _ (a.2.2 _ d.1 (le_trans d.2.1 c.1)) (le_trans d.2.1 c.2.1)
theorem join_assoc {p q r : List Int} (h : p.length = q.length) : pjoin (pjoin p q) r = pjoin p (pjoin q r) := by
  have a := join_jn p q
  have b := join_jn (pjoin p q) r
  have c := join_jn q r
  have d := join_jn p (pjoin q r)
  rw [join_len] at b
  rw [← h] at c
  refine anti (join_vd _ _) (join_vd _ _) (by rw [join_len, join_len, join_len]) ?_ ?_
  · rw [join_len, join_len]
    exact b.2.2 _ (a.2.2 _ d.1 (le_trans c.1 d.2.1)) (le_trans c.2.1 d.2.1)
  · rw [join_len, join_len]
    exact d.2.2 _ (le_trans a.1 b.1) (c.2.2 _ (le_trans a.2.1 b.1) b.2.1)
theorem meet_absorb {p q : List Int} (h : Two p q) : meet p (pjoin p q) = p := by
  have a := join_jn p q
  have hj : Two p (pjoin p q) := ⟨h.left, join_vd _ _, (join_len _ _).symm, h.most⟩
  have b := hj.meet_mt
  refine anti (meet_vd _ _) h.left (meet_len _ _) ?_ ?_
  · rw [meet_len]; exact b.1
  · rw [meet_len]; exact b.2.2 _ (le_refl _ _) a.1
theorem join_absorb {p q : List Int} (h : Two p q) : pjoin p (meet p q) = p := by
  have a := h.meet_mt
  have b := join_jn p (meet p q)
  refine anti (join_vd _ _) h.left (join_len _ _) ?_ ?_
  · rw [join_len]; exact b.2.2 _ (le_refl _ _) a.1
  · rw [join_len]; exact b.1
theorem fin_meet {p q : List Int} (h : Two p q) : fin p q ↔ meet p q = p := by
  have a := h.meet_mt
  constructor
  · intro hf
    refine anti (meet_vd _ _) h.left (meet_len _ _) ?_ ?_
    · rw [meet_len]; exact a.1
    · rw [meet_len]; exact a.2.2 _ (le_refl _ _) hf
  · intro e
    rw [e] at a
    exact a.2.1
theorem fin_join {p q : List Int} (h : Two p q) : fin p q ↔ pjoin p q = q := by
  have a := join_jn p q
  constructor
  · intro hf
    refine anti (join_vd _ _) h.right (by rw [join_len, h.same]) ?_ ?_
    · rw [join_len]; exact a.2.2 _ hf (le_refl _ _)
    · rw [join_len]; exact a.2.1
  · intro e
    rw [e] at a
    exact a.1
theorem fin_less {p q : List Int} (h : Two p q) : fin (meet p q) p := by unfold fin; rw [meet_len]; exact h.meet_mt.1
theorem fin_more (p q : List Int) : fin p (pjoin p q) := (join_jn p q).1
theorem cnt_mono (l : List Int) : ∀ r : List Int, l.length = r.length → le l.length (gz l) (gz r) → cnt r ≤ cnt l := by
  induction l using snoc_rec with
  | h0 =>
    intro r hl _
    have : r = [] := List.eq_nil_of_length_eq_zero (by simpa using hl.symm)
    subst this
    exact Nat.le_refl _
  | h1 l z ih =>
    intro r hl h1
    have hne : r ≠ [] := by intro e; subst e; simp at hl
    obtain ⟨r', y, rfl⟩ : ∃ r' y, r = r' ++ [y] := ⟨_, _, (List.dropLast_concat_getLast hne).symm⟩
    have hl' : l.length = r'.length := by simpa using hl
    have gl : ∀ i, i < l.length → gz (l ++ [z]) i = gz l i := fun i hi => gz_left hi
    have gr : ∀ i, i < l.length → gz (r' ++ [y]) i = gz r' i := fun i hi => gz_left (by omega)
    have zl : gz (l ++ [z]) l.length = z := gz_snoc
    have zr : gz (r' ++ [y]) l.length = y := by rw [hl']; exact gz_snoc
    have hn : (l ++ [z]).length = l.length + 1 := by simp
    rw [hn] at h1
    have e2 := ih r' hl' (fun i j hi hj e => by have := h1 i j (by omega) (by omega); rw [gl i hi, gl j hj, gr i hi, gr j hj] at this; exact this e)
    by_cases hz : z ∈ l
    · obtain ⟨i, hi, ei⟩ := mem_gz hz
      have ey : gz r' i = y := by
        have := h1 i l.length (by omega) (by omega)
        rw [gl i hi, zl, gr i hi, zr] at this
        exact this ei
      have hy : y ∈ r' := by rw [← ey]; exact gz_mem (by omega)
      rw [cnt_old hz, cnt_old hy]
      exact e2
    · rw [cnt_new hz]
      by_cases hy : y ∈ r'
      · rw [cnt_old hy]; omega
      · rw [cnt_new hy]; omega
theorem cnt_meet {p q : List Int} (h : Two p q) : cnt p ≤ cnt (meet p q) := cnt_mono _ _ (meet_len p q) (by rw [meet_len]; exact h.meet_mt.1)
theorem cnt_join (p q : List Int) : cnt (pjoin p q) ≤ cnt p := cnt_mono _ _ (join_len p q).symm (join_jn p q).1
end Go.Proofs.Ytgafpmgdpigliaa.M

namespace Go.Proofs.Ytgafpmgdpigliaa.Mc
open M (gz ofL Vd le fin cnt)

/-- The block that an edge leads to. -/
def tgt (p : List Int) (x : Int) : Int := if x = -1 then -1 else gz p x.toNat
/-- What a partition lets one see of an edge, of a state. -/
def se (p : List Int) (x : Ed) : Ed := (x.2, tgt p x.1)
def sg (m : Ma) (p : List Int) (s : Nat) : Int × List Ed := (gz p s, ((m.r[s]?).getD []).map (se p))
def sgs (m : Ma) (p : List Int) : List (Int × List Ed) := (List.range m.r.length).map (sg m p)
/-- The first state with the same signature. -/
def fs (m : Ma) (p : List Int) : List Int := (List.range m.r.length).map fun s => ((sgs m p).idxOf (sg m p s) : Int)
/-- The partition by signatures. -/
def rfd (m : Ma) (p : List Int) : List Int := ofL (fs m p)
theorem fs_len (m : Ma) (p : List Int) : (fs m p).length = m.r.length := by simp [fs]
theorem rfd_len (m : Ma) (p : List Int) : (rfd m p).length = m.r.length := by rw [rfd, M.ofL_len, fs_len]
theorem rfd_vd (m : Ma) (p : List Int) : Vd (rfd m p) := Vd.of_ _
theorem fs_gz {m : Ma} {p : List Int} {s : Nat} (h : s < m.r.length) : gz (fs m p) s = ((sgs m p).idxOf (sg m p s) : Int) := by
  simp [gz, fs, h]
theorem sgs_at {m : Ma} {p : List Int} {s : Nat} (h : s < m.r.length) : (sgs m p)[s]? = some (sg m p s) := by simp [sgs, h]
theorem fs_iff {m : Ma} {p : List Int} {s t : Nat} (hs : s < m.r.length) (ht : t < m.r.length) : gz (fs m p) s = gz (fs m p) t ↔ sg m p s = sg m p t := by
  rw [fs_gz hs, fs_gz ht]
  constructor
  · intro h
    have h : (sgs m p).idxOf (sg m p s) = (sgs m p).idxOf (sg m p t) := by omega
    have a := List.getElem_idxOf (List.idxOf_lt_length_iff.2 (List.mem_of_getElem? (sgs_at (p := p) hs)))
    have b := List.getElem_idxOf (List.idxOf_lt_length_iff.2 (List.mem_of_getElem? (sgs_at (p := p) ht)))
    rw [← a, ← b]
    simp [h]
  · intro h; rw [h]
theorem rfd_iff {m : Ma} {p : List Int} {s t : Nat} (hs : s < m.r.length) (ht : t < m.r.length) : gz (rfd m p) s = gz (rfd m p) t ↔ sg m p s = sg m p t := by
  rw [← fs_iff hs ht]
  have a := M.le_ofL (fs m p)
  have b := M.ofL_le (fs m p)
  rw [fs_len] at a b
  exact ⟨b s t hs ht, a s t hs ht⟩
/-- Two rows are alike for a function on edges. -/
theorem row_iff {α : Type} {m : Ma} (v : Val m) (f : Ed → α) {s t : Nat} (hs : s < m.r.length) (ht : t < m.r.length) :
    ((m.r[s]?).getD []).map f = ((m.r[t]?).getD []).map f ↔ ∀ i : Nat, (i : Int) < m.i → f (nx m s i) = f (nx m t i) := by
  have ls := v.len _ (List.getElem_mem hs)
  have lt := v.len _ (List.getElem_mem ht)
  rw [List.getElem?_eq_getElem hs, List.getElem?_eq_getElem ht, Option.getD_some, Option.getD_some]
  have es : ∀ i (h : i < m.r[s].length), nx m s i = m.r[s][i] := fun i h => nx_at (List.getElem?_eq_getElem hs) (List.getElem?_eq_getElem h)
  have et : ∀ i (h : i < m.r[t].length), nx m t i = m.r[t][i] := fun i h => nx_at (List.getElem?_eq_getElem ht) (List.getElem?_eq_getElem h)
  constructor
  · intro h i hi
    rw [es i (by omega), et i (by omega)]
    have := congrArg (fun l => l[i]?) h
    simpa [List.getElem?_map, List.getElem?_eq_getElem (show i < m.r[s].length by omega), List.getElem?_eq_getElem (show i < m.r[t].length by omega)] using this
  · intro h
    refine List.ext_getElem (by simp; omega) fun i h1 h2 => ?_
    rw [List.length_map] at h1 h2
    have := h i (by omega)
    rw [es i h1, et i h2] at this
    simpa using this
theorem sg_iff {m : Ma} (v : Val m) (p : List Int) {s t : Nat} (hs : s < m.r.length) (ht : t < m.r.length) :
    sg m p s = sg m p t ↔ gz p s = gz p t ∧ ∀ i : Nat, (i : Int) < m.i → (nx m s i).2 = (nx m t i).2 ∧ tgt p (nx m s i).1 = tgt p (nx m t i).1 := by
  have h := row_iff v (se p) hs ht
  unfold sg
  rw [Prod.mk.injEq, h]
  simp [se]
/-- Both edges are undefined, or both are defined. -/
theorem both {m : Ma} (v : Val m) {s t : Nat} (hs : s < m.r.length) (ht : t < m.r.length) {i : Nat} (hi : (i : Int) < m.i) (h : (nx m s i).2 = (nx m t i).2) :
    ((nx m s i).1 = -1 ∧ (nx m t i).1 = -1) ∨ ∃ s' t' : Nat, (nx m s i).1 = s' ∧ (nx m t i).1 = t' ∧ s' < m.r.length ∧ t' < m.r.length := by
  obtain ⟨a, b, _, _, c⟩ := nx_st v (s := (s : Int)) (i := (i : Int)) (Or.inr ⟨by omega, by omega⟩) ⟨by omega, hi⟩
  obtain ⟨a', b', _, _, c'⟩ := nx_st v (s := (t : Int)) (i := (i : Int)) (Or.inr ⟨by omega, by omega⟩) ⟨by omega, hi⟩
  rcases a with a | a
  · rcases a' with a' | a'
    · exact Or.inl ⟨a, a'⟩
    · have := b a; have := c' a'.1; omega
  · rcases a' with a' | a'
    · have := b' a'; have := c a.1; omega
    · exact Or.inr ⟨(nx m s i).1.toNat, (nx m t i).1.toNat, by omega, by omega, by omega, by omega⟩
theorem tgt_none (p : List Int) : tgt p (-1) = -1 := rfl
theorem tgt_nat (p : List Int) (s : Nat) : tgt p s = gz p s := by unfold tgt; rw [if_neg (by omega), Int.toNat_natCast]

/-! ### Equivalence -/
/-- Equal responses to all words of at most k symbols. -/
def Eqv (m : Ma) (k : Nat) (s t : Int) : Prop := ∀ w, Wd m w → w.length ≤ k → run m s w = run m t w
theorem eqv_refl (m : Ma) (k : Nat) (s : Int) : Eqv m k s s := fun _ _ _ => rfl
theorem eqv_mono {m : Ma} {k j : Nat} {s t : Int} (h : Eqv m k s t) (hj : j ≤ k) : Eqv m j s t := fun w hw hl => h w hw (by omega)
theorem eqv_step {m : Ma} {k : Nat} {s t : Int} : Eqv m (k + 1) s t ↔ ∀ i : Nat, (i : Int) < m.i → (nx m s i).2 = (nx m t i).2 ∧ Eqv m k (nx m s i).1 (nx m t i).1 := by
  constructor
  · intro h i hi
    constructor
    · have := h [(i : Int)] (fun c hc => by obtain rfl : c = i := by simpa using hc
                                            omega) (by simp)
      simpa [run] using this
    · intro w hw hl
      have := h ((i : Int) :: w) (fun c hc => by
        rcases List.mem_cons.1 hc with rfl | hc
        · omega
        · exact hw c hc) (by simp; omega)
      simp only [run, List.cons.injEq] at this
      exact this.2
  · intro h w hw hl
    cases w with
    | nil => rfl
    | cons c w =>
      have hc := hw c (by simp)
      obtain ⟨i, rfl⟩ := Int.eq_ofNat_of_zero_le hc.1
      obtain ⟨h1, h2⟩ := h i hc.2
      have hl : w.length ≤ k := by simpa using hl
      simp only [run]
      rw [h1, h2 w (fun d hd => hw d (by simp [hd])) hl]
/-- The partition after so many rounds. -/
def rnd (m : Ma) : Nat → List Int
  | 0 => List.replicate m.r.length 0
  | k + 1 => rfd m (rnd m k)
theorem rnd_len (m : Ma) : ∀ k, (rnd m k).length = m.r.length
  | 0 => by simp [rnd]
  | k + 1 => rfd_len _ _
theorem rep_gz {n s : Nat} (h : s < n) : gz (List.replicate n (0 : Int)) s = 0 := by simp [gz, h]
theorem rep_vd : ∀ n, Vd (List.replicate n (0 : Int))
  | 0 => rfl
  | n + 1 => by
    rw [List.replicate_succ']
    refine (M.vd_step (rep_vd n)).2 ⟨Int.le_refl _, by omega⟩
theorem rnd_vd (m : Ma) : ∀ k, Vd (rnd m k)
  | 0 => rep_vd _
  | _ + 1 => rfd_vd _ _
theorem rnd_iff {m : Ma} (v : Val m) : ∀ (k : Nat) {s t : Nat}, s < m.r.length → t < m.r.length → (gz (rnd m k) s = gz (rnd m k) t ↔ Eqv m k s t)
  | 0, s, t, hs, ht => by
    rw [rnd, rep_gz hs, rep_gz ht]
    refine ⟨fun _ w _ hl => ?_, fun _ => rfl⟩
    rw [List.eq_nil_of_length_eq_zero (by omega : w.length = 0)]
    rfl
  | k + 1, s, t, hs, ht => by
    rw [rnd, rfd_iff hs ht, sg_iff v _ hs ht, rnd_iff v k hs ht]
    constructor
    · rintro ⟨_, h⟩
      refine eqv_step.2 fun i hi => ⟨(h i hi).1, ?_⟩
      rcases both v hs ht hi (h i hi).1 with ⟨a, b⟩ | ⟨s', t', a, b, c, d⟩
      · rw [a, b]; exact eqv_refl _ _ _
      · have := (h i hi).2
        rw [a, b, tgt_nat, tgt_nat, rnd_iff v k c d] at this
        rw [a, b]; exact this
    · intro h
      refine ⟨eqv_mono h (by omega), fun i hi => ?_⟩
      obtain ⟨h1, h2⟩ := eqv_step.1 h i hi
      refine ⟨h1, ?_⟩
      rcases both v hs ht hi h1 with ⟨a, b⟩ | ⟨s', t', a, b, c, d⟩
      · rw [a, b]
      · rw [a, b] at h2
        rw [a, b, tgt_nat, tgt_nat]
        exact (rnd_iff v k c d).2 h2
theorem rfd_fin (m : Ma) (p : List Int) : fin (rfd m p) p := fun i j hi hj e => by
  rw [rfd_len] at hi hj
  exact congrArg Prod.fst ((rfd_iff hi hj).1 e)
theorem rnd_fin (m : Ma) (k : Nat) : fin (rnd m (k + 1)) (rnd m k) := rfd_fin _ _
theorem rnd_stay {m : Ma} {k : Nat} (h : rnd m (k + 1) = rnd m k) : ∀ j, rnd m (k + j) = rnd m k
  | 0 => rfl
  | j + 1 => by
    show rfd m (rnd m (k + j)) = rnd m k
    rw [rnd_stay h j]
    exact h
theorem rnd_from {m : Ma} {k j : Nat} (h : rnd m (k + 1) = rnd m k) (hj : k ≤ j) : rnd m j = rnd m k := by
  have := rnd_stay h (j - k)
  rwa [show k + (j - k) = j by omega] at this
/-- As many values, and finer: the same. -/
theorem cnt_strict (l : List Int) : ∀ r : List Int, l.length = r.length → le l.length (gz l) (gz r) → cnt r ≤ cnt l ∧ (cnt r = cnt l → le l.length (gz r) (gz l)) := by
  induction l using M.snoc_rec with
  | h0 =>
    intro r hl _
    have : r = [] := List.eq_nil_of_length_eq_zero (by simpa using hl.symm)
    subst this
    exact ⟨Nat.le_refl _, fun _ i j hi => absurd hi (Nat.not_lt_zero i)⟩
  | h1 l z ih =>
    intro r hl h1
    have hne : r ≠ [] := by intro e; subst e; simp at hl
    obtain ⟨r', y, rfl⟩ : ∃ r' y, r = r' ++ [y] := ⟨_, _, (List.dropLast_concat_getLast hne).symm⟩
    have hl' : l.length = r'.length := by simpa using hl
    have gl : ∀ i, i < l.length → gz (l ++ [z]) i = gz l i := fun i hi => M.gz_left hi
    have gr : ∀ i, i < l.length → gz (r' ++ [y]) i = gz r' i := fun i hi => M.gz_left (by omega)
    have zl : gz (l ++ [z]) l.length = z := M.gz_snoc
    have zr : gz (r' ++ [y]) l.length = y := by rw [hl']; exact M.gz_snoc
    have hn : (l ++ [z]).length = l.length + 1 := by simp
    rw [hn] at h1 ⊢
    obtain ⟨e1, e2⟩ := ih r' hl' (fun i j hi hj e => by have := h1 i j (by omega) (by omega); rw [gl i hi, gl j hj, gr i hi, gr j hj] at this; exact this e)
    by_cases hz : z ∈ l
    · obtain ⟨i0, hi0, ei⟩ := M.mem_gz hz
      have ey : gz r' i0 = y := by
        have := h1 i0 l.length (by omega) (by omega)
        rw [gl i0 hi0, zl, gr i0 hi0, zr] at this
        exact this ei
      have hy : y ∈ r' := by rw [← ey]; exact M.gz_mem (by omega)
      rw [M.cnt_old hz, M.cnt_old hy]
      refine ⟨e1, fun hc i j hi hj e => ?_⟩
      have h3 := e2 hc
      have key : ∀ a, a < l.length + 1 → ∃ b, b < l.length ∧ gz (l ++ [z]) a = gz l b ∧ gz (r' ++ [y]) a = gz r' b := fun a ha => by
        rcases Nat.lt_or_ge a l.length with h4 | h4
        · exact ⟨a, h4, gl a h4, gr a h4⟩
        · obtain rfl : a = l.length := by omega
          exact ⟨i0, hi0, by rw [zl, ei], by rw [zr, ey]⟩
      obtain ⟨b, hb, b1, b2⟩ := key i hi
      obtain ⟨c, hcl, c1, c2⟩ := key j hj
      rw [b1, c1]
      rw [b2, c2] at e
      exact h3 b c hb hcl e
    · rw [M.cnt_new hz]
      by_cases hy : y ∈ r'
      · rw [M.cnt_old hy]
        exact ⟨by omega, fun hc => by omega⟩
      · rw [M.cnt_new hy]
        refine ⟨by omega, fun hc i j hi hj e => ?_⟩
        have h3 := e2 (by omega)
        have no : ∀ a, a < l.length → gz r' a ≠ y := fun a ha e => hy (e ▸ M.gz_mem (by omega))
        rcases Nat.lt_or_ge i l.length with h4 | h4
        · rcases Nat.lt_or_ge j l.length with h5 | h5
          · rw [gl i h4, gl j h5]
            rw [gr i h4, gr j h5] at e
            exact h3 i j h4 h5 e
          · obtain rfl : j = l.length := by omega
            rw [gr i h4, zr] at e
            exact absurd e (no i h4)
        · obtain rfl : i = l.length := by omega
          rcases Nat.lt_or_ge j l.length with h5 | h5
          · rw [gr j h5, zr] at e
            exact absurd e.symm (no j h5)
          · obtain rfl : j = l.length := by omega
            rfl
theorem rnd_more {m : Ma} {k : Nat} (h : rnd m (k + 1) ≠ rnd m k) : cnt (rnd m k) < cnt (rnd m (k + 1)) := by
  have hl : (rnd m (k + 1)).length = (rnd m k).length := by rw [rnd_len, rnd_len]
  obtain ⟨a, b⟩ := cnt_strict _ _ hl (rnd_fin m k)
  rcases Nat.lt_or_ge (cnt (rnd m k)) (cnt (rnd m (k + 1))) with h1 | h1
  · exact h1
  · exact absurd (M.anti (rnd_vd _ _) (rnd_vd _ _) hl (rnd_fin m k) (b (by omega))) h
/-- The last round is the K-th one. -/
structure Lst (m : Ma) (K : Nat) : Prop where
  last : rnd m (K + 1) = rnd m K
  more : ∀ k, k < K → rnd m (k + 1) ≠ rnd m k
theorem Lst.uniq {m : Ma} {K L : Nat} (h : Lst m K) (h2 : Lst m L) : K = L := by
  rcases Nat.lt_trichotomy K L with a | a | a
  · exact absurd h.last (h2.more K a)
  · exact a
  · exact absurd h2.last (h.more L a)
theorem rnd_count {m : Ma} (h0 : 1 ≤ m.r.length) : ∀ k, (∀ j, j < k → rnd m (j + 1) ≠ rnd m j) → k + 1 ≤ cnt (rnd m k)
  | 0, _ => by
    rcases Nat.eq_zero_or_pos (cnt (rnd m 0)) with h1 | h1
    · have h2 : (0 : Int) ∈ rnd m 0 := List.mem_replicate.2 ⟨by omega, rfl⟩
      have := M.nu_lt h2
      omega
    · exact h1
  | k + 1, h => by
    have := rnd_count h0 k (fun j hj => h j (by omega))
    have := rnd_more (h k (by omega))
    omega
theorem lst_ex {m : Ma} (h0 : 1 ≤ m.r.length) : ∃ K, Lst m K ∧ K < m.r.length := by
  have key : ∀ n, (∃ K, K < n ∧ Lst m K) ∨ ∀ j, j < n → rnd m (j + 1) ≠ rnd m j := by
    intro n
    induction n with
    | zero => exact Or.inr fun j hj => absurd hj (by omega)
    | succ n ih =>
      rcases ih with ⟨K, hK, hL⟩ | ih
      · exact Or.inl ⟨K, by omega, hL⟩
      · by_cases h : rnd m (n + 1) = rnd m n
        · exact Or.inl ⟨n, by omega, h, ih⟩
        · refine Or.inr fun j hj => ?_
          rcases Nat.lt_or_ge j n with h1 | h1
          · exact ih j h1
          · obtain rfl : j = n := by omega
            exact h
  rcases key m.r.length with ⟨K, hK, hL⟩ | h
  · exact ⟨K, hL, hK⟩
  · have := rnd_count h0 m.r.length h
    have := M.cnt_le (rnd m m.r.length)
    rw [rnd_len] at this
    omega
open Classical in
/-- After how many rounds the partition stays. -/
noncomputable def lst (m : Ma) : Nat := if h : 1 ≤ m.r.length then (lst_ex h).choose else 0
theorem lst_lst {m : Ma} (h : 1 ≤ m.r.length) : Lst m (lst m) := by unfold lst; rw [dif_pos h]; exact (lst_ex h).choose_spec.1
theorem lst_lt {m : Ma} (h : 1 ≤ m.r.length) : lst m < m.r.length := by unfold lst; rw [dif_pos h]; exact (lst_ex h).choose_spec.2
/-- The partition by equivalence. -/
noncomputable def cls (m : Ma) : List Int := rnd m (lst m)
theorem cls_from {m : Ma} (h : 1 ≤ m.r.length) {k : Nat} (hk : lst m ≤ k) : rnd m k = cls m := rnd_from (lst_lst h).last hk
theorem cls_all {m : Ma} (h : 1 ≤ m.r.length) : rnd m m.r.length = cls m := cls_from h (Nat.le_of_lt (lst_lt h))
theorem rnd_min {m : Ma} (h : 1 ≤ m.r.length) (k : Nat) : rnd m k = rnd m (min k (lst m)) := by
  rcases Nat.le_total k (lst m) with h1 | h1
  · rw [Nat.min_eq_left h1]
  · rw [Nat.min_eq_right h1]; exact cls_from h h1
/-- Equivalent states have equal responses to all words. -/
theorem cls_run {m : Ma} (v : Val m) {s t : Nat} (hs : s < m.r.length) (ht : t < m.r.length) (h : gz (cls m) s = gz (cls m) t) (w : List Int) (hw : Wd m w) : run m s w = run m t w := by
  have h0 := v.r0
  have e := cls_from h0 (k := max (lst m) w.length) (by omega)
  rw [← e] at h
  exact (rnd_iff v _ hs ht).1 h w hw (by omega)

/-! ### What is respected -/
def Rsp (m : Ma) (p : List Int) : Prop := ∀ s t, s < m.r.length → t < m.r.length → gz p s = gz p t → sg m p s = sg m p t
theorem rsp_iff {m : Ma} {p : List Int} (hv : Vd p) (hl : p.length = m.r.length) : rfd m p = p ↔ Rsp m p := by
  constructor
  · intro h s t hs ht e
    rw [← rfd_iff hs ht, h]
    exact e
  · intro h
    refine M.anti (rfd_vd _ _) hv (by rw [rfd_len, hl]) (rfd_fin m p) ?_
    rw [rfd_len]
    intro s t hs ht e
    exact (rfd_iff hs ht).2 (h s t hs ht e)
theorem rsp_cls {m : Ma} (h : 1 ≤ m.r.length) : rfd m (cls m) = cls m := (lst_lst h).last
/-- Each partition that is respected is finer than every round. -/
theorem rsp_fin {m : Ma} (v : Val m) {p : List Int} (h : Rsp m p) : ∀ (k : Nat) (s t : Nat), s < m.r.length → t < m.r.length → gz p s = gz p t → gz (rnd m k) s = gz (rnd m k) t
  | 0, s, t, hs, ht, _ => by rw [rnd, rep_gz hs, rep_gz ht]
  | k + 1, s, t, hs, ht, e => by
    rw [rnd, rfd_iff hs ht, sg_iff v _ hs ht]
    refine ⟨rsp_fin v h k s t hs ht e, fun i hi => ?_⟩
    obtain ⟨h1, h2⟩ := ((sg_iff v _ hs ht).1 (h s t hs ht e)).2 i hi
    refine ⟨h1, ?_⟩
    rcases both v hs ht hi h1 with ⟨a, b⟩ | ⟨s', t', a, b, c, d⟩
    · rw [a, b]
    · rw [a, b, tgt_nat, tgt_nat] at h2 ⊢
      exact rsp_fin v h k s' t' c d h2
/-- The join of two that are respected is respected. -/
theorem rsp_join {m : Ma} (v : Val m) {p q : List Int} (hp : Rsp m p) (hq : Rsp m q) (hl : p.length = m.r.length) : Rsp m (M.pjoin p q) := by
  obtain ⟨j1, j2, j3⟩ := M.join_jn p q
  rw [hl] at j1 j2 j3
  have key : ∀ r, Rsp m r → le m.r.length (gz r) (gz (M.pjoin p q)) → le m.r.length (gz r) (gz (fs m (M.pjoin p q))) := fun r hr hj s t hs ht e => by
    rw [fs_iff hs ht, sg_iff v _ hs ht]
    refine ⟨hj s t hs ht e, fun i hi => ?_⟩
    obtain ⟨h1, h2⟩ := ((sg_iff v _ hs ht).1 (hr s t hs ht e)).2 i hi
    refine ⟨h1, ?_⟩
    rcases both v hs ht hi h1 with ⟨a, b⟩ | ⟨s', t', a, b, c, d⟩
    · rw [a, b]
    · rw [a, b, tgt_nat, tgt_nat] at h2 ⊢
      exact hj s' t' c d h2
  intro s t hs ht e
  exact (fs_iff hs ht).1 (j3 _ (key p hp j1) (key q hq j2) s t hs ht e)

/-! ### The reference: pairs that are told apart -/
/-- An input tells two states apart, given a partition. -/
def apE (p : List Int) (x y : Ed) : Bool := decide (x.2 ≠ y.2) || (decide (0 ≤ x.1) && decide (0 ≤ y.1) && decide (gz p x.1.toNat ≠ gz p y.1.toNat))
def apt (m : Ma) (p : List Int) (s t : Nat) (k : Nat) : Bool := (List.range k).any fun i => apE p (nx m s i) (nx m t i)
theorem apt_zero (m : Ma) (p : List Int) (s t : Nat) : apt m p s t 0 = false := rfl
theorem apt_snoc (m : Ma) (p : List Int) (s t k : Nat) : apt m p s t (k + 1) = (apt m p s t k || apE p (nx m s k) (nx m t k)) := by
  unfold apt
  rw [List.range_succ, List.any_append]
  simp
theorem apt_hit {m : Ma} {p : List Int} {s t k i : Nat} (hk : k < i) (h : apE p (nx m s k) (nx m t k) = true) : apt m p s t i = true :=
  List.any_eq_true.2 ⟨k, List.mem_range.2 hk, h⟩
theorem apE_iff {m : Ma} (v : Val m) (p : List Int) {s t i : Nat} (hs : s < m.r.length) (ht : t < m.r.length) (hi : (i : Int) < m.i) :
    apE p (nx m s i) (nx m t i) = false ↔ (nx m s i).2 = (nx m t i).2 ∧ tgt p (nx m s i).1 = tgt p (nx m t i).1 := by
  by_cases h1 : (nx m s i).2 = (nx m t i).2
  · rcases both v hs ht hi h1 with ⟨a, b⟩ | ⟨s', t', a, b, c, d⟩
    · simp [apE, h1, a, b]
    · rw [a, b, tgt_nat, tgt_nat]
      simp [apE, h1, a, b]
  · simp [apE, h1]
theorem apt_iff {m : Ma} (v : Val m) (p : List Int) {s t i : Nat} (hs : s < m.r.length) (ht : t < m.r.length) (hi : m.i = i) :
    (decide (gz p s ≠ gz p t) || apt m p s t i) = decide (gz (rfd m p) s ≠ gz (rfd m p) t) := by
  have key : gz (rfd m p) s = gz (rfd m p) t ↔ gz p s = gz p t ∧ apt m p s t i = false := by
    rw [rfd_iff hs ht, sg_iff v p hs ht]
    refine and_congr Iff.rfl ?_
    constructor
    · intro h
      cases hb : apt m p s t i with
      | false => rfl
      | true =>
        obtain ⟨j, hj, h2⟩ := List.any_eq_true.1 hb
        have hj : (j : Int) < m.i := by have := List.mem_range.1 hj; omega
        rw [(apE_iff v p hs ht hj).2 (h j hj)] at h2
        cases h2
    · intro h j hj
      refine (apE_iff v p hs ht hj).1 ?_
      cases hb : apE p (nx m s j) (nx m t j) with
      | false => rfl
      | true => rw [apt_hit (by omega) hb] at h; cases h
  cases hb : apt m p s t i with
  | true =>
    have : ¬ gz (rfd m p) s = gz (rfd m p) t := fun e => by have := (key.1 e).2; rw [hb] at this; cases this
    simp [this]
  | false =>
    rw [hb] at key
    simp only [and_true] at key
    simp [key]
/-- One step of the reference's partition: the block of a state. -/
theorem prt_old {p : List Int} {s t : Nat} (ht : t < s) (h : gz p s = gz p t) : gz (p.take s) t = gz p s := by rw [M.gz_take ht, h]
theorem prt_new {p : List Int} (hv : Vd p) {s : Nat} (hs : s < p.length) (h : ∀ t, t < s → gz p s ≠ gz p t) : gz p s = cnt (p.take s) := by
  have h1 := M.ofL_at hs
  rw [hv, M.take_gz hs] at h1
  have hn : ¬ gz p s ∈ p.take s := fun hm => by
    obtain ⟨t, ht, e⟩ := (M.mem_take (by omega)).1 hm
    exact h t ht e.symm
  rwa [M.nu_new hn] at h1
theorem prt_cnt_new {p : List Int} {s : Nat} (hs : s < p.length) (h : ∀ t, t < s → gz p s ≠ gz p t) : cnt (p.take (s + 1)) = cnt (p.take s) + 1 := by
  rw [M.take_gz hs]
  refine M.cnt_new fun hm => ?_
  obtain ⟨t, ht, e⟩ := (M.mem_take (by omega)).1 hm
  exact h t ht e.symm
theorem prt_cnt_old {p : List Int} {s t : Nat} (hs : s < p.length) (ht : t < s) (h : gz p s = gz p t) : cnt (p.take (s + 1)) = cnt (p.take s) := by
  rw [M.take_gz hs]
  exact M.cnt_old ((M.mem_take (by omega)).2 ⟨t, ht, h.symm⟩)
/-- The reference's Respects: what one pair says. -/
theorem rsp_pairs {m : Ma} (v : Val m) {p : List Int} {i : Nat} (hi : m.i = i) : Rsp m p ↔ ∀ s t, t < s → s < m.r.length → gz p s = gz p t → apt m p s t i = false := by
  have one : ∀ s t, s < m.r.length → t < m.r.length → gz p s = gz p t → (sg m p s = sg m p t ↔ apt m p s t i = false) := fun s t hs ht e => by
    have h1 := apt_iff v p hs ht hi
    have h2 := rfd_iff (p := p) hs ht
    rw [← h2]
    have h3 : decide (gz p s ≠ gz p t) = false := by simp [e]
    rw [h3, Bool.false_or] at h1
    rw [h1]
    simp
  constructor
  · intro h s t hts hs e
    exact (one s t hs (by omega) e).1 (h s t hs (by omega) e)
  · intro h s t hs ht e
    rcases Nat.lt_trichotomy s t with h1 | h1 | h1
    · exact ((one t s ht hs e.symm).2 (h t s h1 ht e.symm)).symm
    · rw [h1]
    · exact (one s t hs ht e).2 (h s t h1 hs e)
end Go.Proofs.Ytgafpmgdpigliaa.Mc

namespace Go.Proofs.Ytgafpmgdpigliaa.Mc
open M (gz ofL Vd le fin cnt)

/-! ### All words of a length -/
/-- The word of a number: its digits, the least one first. -/
def dg (i : Nat) : Nat → Nat → List Int
  | 0, _ => []
  | k + 1, n => ((n % i : Nat) : Int) :: dg i k (n / i)
theorem dg_len (i : Nat) : ∀ k n, (dg i k n).length = k
  | 0, _ => rfl
  | k + 1, n => by simp [dg, dg_len i k]
theorem dg_wd {i : Nat} (hi : 0 < i) : ∀ (k n : Nat), ∀ c ∈ dg i k n, 0 ≤ c ∧ c < i
  | 0, _, c, h => by simp [dg] at h
  | k + 1, n, c, h => by
    rcases List.mem_cons.1 h with rfl | h
    · have := Nat.mod_lt n hi
      omega
    · exact dg_wd hi k _ c h
theorem dg_snoc (i : Nat) : ∀ (k n : Nat), dg i (k + 1) n = dg i k n ++ [((n / i ^ k % i : Nat) : Int)]
  | 0, n => by simp [dg]
  | k + 1, n => by
    show ((n % i : Nat) : Int) :: dg i (k + 1) (n / i) = (((n % i : Nat) : Int) :: dg i k (n / i)) ++ [((n / i ^ (k + 1) % i : Nat) : Int)]
    rw [dg_snoc i k (n / i), Nat.div_div_eq_div_mul, Nat.pow_succ, Nat.mul_comm i]
    rfl
theorem dg_all {i : Nat} (hi : 0 < i) : ∀ (w : List Int), (∀ c ∈ w, 0 ≤ c ∧ c < i) → ∃ n, n < i ^ w.length ∧ dg i w.length n = w
  | [], _ => ⟨0, by simp, rfl⟩
  | c :: w, h => by
    obtain ⟨n, hn, e⟩ := dg_all hi w (fun d hd => h d (by simp [hd]))
    obtain ⟨h1, h2⟩ := h c (by simp)
    obtain ⟨c, rfl⟩ := Int.eq_ofNat_of_zero_le h1
    have h2 : c < i := by omega
    refine ⟨n * i + c, ?_, ?_⟩
    · rw [List.length_cons, Nat.pow_succ]
      have : (n + 1) * i ≤ i ^ w.length * i := Nat.mul_le_mul_right i hn
      rw [Nat.add_mul] at this
      omega
    · rw [List.length_cons]
      have e1 : (n * i + c) % i = c := by rw [Nat.add_comm, Nat.add_mul_mod_self_right, Nat.mod_eq_of_lt h2]
      have e2 : (n * i + c) / i = n := by rw [Nat.add_comm, Nat.add_mul_div_right _ _ hi, Nat.div_eq_of_lt h2, Nat.zero_add]
      show (((n * i + c) % i : Nat) : Int) :: dg i w.length ((n * i + c) / i) = _
      rw [e1, e2, e]
/-- All words of k symbols tell what all words of at most k symbols tell. -/
theorem eqv_full {m : Ma} {i : Nat} (hi : m.i = i) (h0 : 0 < i) {k : Nat} {s t : Int} : Eqv m k s t ↔ ∀ n, n < i ^ k → run m s (dg i k n) = run m t (dg i k n) := by
  constructor
  · intro h n _
    exact h _ (fun c hc => by rw [hi]; exact dg_wd h0 k n c hc) (by rw [dg_len]; exact Nat.le_refl _)
  · intro h w hw hl
    have hw2 : ∀ c ∈ w ++ List.replicate (k - w.length) (0 : Int), 0 ≤ c ∧ c < (i : Int) := fun c hc => by
      rcases List.mem_append.1 hc with hc | hc
      · rw [← hi]; exact hw c hc
      · rw [(List.mem_replicate.1 hc).2]; omega
    obtain ⟨n, hn, e⟩ := dg_all h0 _ hw2
    have hlen : (w ++ List.replicate (k - w.length) (0 : Int)).length = k := by simp; omega
    rw [hlen] at hn e
    have h1 := h n hn
    rw [e, run_app, run_app] at h1
    have := congrArg (List.take w.length) h1
    rwa [List.take_left' (run_len m w s), List.take_left' (run_len m w t)] at this

/-! ### Chains -/
/-- The chain of n states: the last one alone has another output. -/
def chn (n : Nat) : Ma := ⟨1, 2, (List.range n).map fun s => [(((min (s + 1) (n - 1) : Nat) : Int), (((s + 1) / n : Nat) : Int))]⟩
theorem chn_len (n : Nat) : (chn n).r.length = n := by simp [chn]
theorem chn_at {n s : Nat} (h : s < n) : (chn n).r[s]? = some [(((min (s + 1) (n - 1) : Nat) : Int), (((s + 1) / n : Nat) : Int))] := by simp [chn, h]
theorem chn_out {n s : Nat} (h : s < n) : (s + 1) / n = if s + 1 = n then 1 else 0 := by
  split
  · rename_i e; rw [e]; exact Nat.div_self (by omega)
  · exact Nat.div_eq_of_lt (by omega)
theorem chn_val {n : Nat} (h1 : 1 ≤ n) (h2 : n ≤ 64) : Val (chn n) := by
  refine ⟨Int.le_refl _, by show (1 : Int) ≤ 16; omega, by show (1 : Int) ≤ 2; omega, by show (2 : Int) ≤ 16; omega, by rw [chn_len]; exact h1, by rw [chn_len]; exact h2, fun row hrow => ?_, fun row hrow x hx => ?_⟩
  · obtain ⟨s, _, rfl⟩ := List.mem_map.1 hrow
    rfl
  · obtain ⟨s, hs, rfl⟩ := List.mem_map.1 hrow
    have hs := List.mem_range.1 hs
    obtain rfl : x = _ := by simpa using hx
    rw [chn_len]
    refine Or.inr ⟨Int.natCast_nonneg _, by show ((min (s + 1) (n - 1) : Nat) : Int) < n; omega, Int.natCast_nonneg _, ?_⟩
    show (((s + 1) / n : Nat) : Int) < 2
    rw [chn_out hs]
    split <;> omega
theorem chn_nx {n s : Nat} (h : s < n) : nx (chn n) s 0 = (((min (s + 1) (n - 1) : Nat) : Int), if s + 1 = n then 1 else 0) := by
  have := nx_at (m := chn n) (s := s) (i := 0) (chn_at h) rfl
  rw [show ((0 : Nat) : Int) = 0 from rfl] at this
  rw [this, chn_out h]
  split <;> rfl
/-- The partition of a chain of which the last states alone are told apart. -/
def chp (n c : Nat) : List Int := (List.range n).map fun s => ((s - c : Nat) : Int)
theorem chp_len (n c : Nat) : (chp n c).length = n := by simp [chp]
theorem chp_gz {n c s : Nat} (h : s < n) : gz (chp n c) s = ((s - c : Nat) : Int) := by simp [gz, chp, h]
theorem chp_snoc (n c : Nat) : chp (n + 1) c = chp n c ++ [((n - c : Nat) : Int)] := by simp [chp, List.range_succ]
theorem chp_vd (c : Nat) : ∀ n, Vd (chp n c) ∧ cnt (chp n c) = if n = 0 then 0 else n - 1 - c + 1
  | 0 => ⟨rfl, rfl⟩
  | n + 1 => by
    obtain ⟨h1, h2⟩ := chp_vd c n
    rw [chp_snoc]
    rw [if_neg (Nat.succ_ne_zero n)]
    rcases Nat.eq_zero_or_pos n with rfl | hn
    · rw [if_pos rfl] at h2
      refine ⟨(M.vd_step h1).2 ⟨by omega, by omega⟩, ?_⟩
      rw [h1.cnt_next (by omega)]
      omega
    rw [if_neg (by omega)] at h2
    have h3 : ((n - c : Nat) : Int) ≤ cnt (chp n c) := by rw [h2]; omega
    refine ⟨(M.vd_step h1).2 ⟨by omega, h3⟩, ?_⟩
    by_cases h4 : ((n - c : Nat) : Int) < cnt (chp n c)
    · rw [h1.cnt_same (by omega) h4, h2]
      rw [h2] at h4
      omega
    · rw [h1.cnt_next (by omega), h2]
      rw [h2] at h3 h4
      omega
theorem chn_rnd {n : Nat} (h1 : 1 ≤ n) (h2 : n ≤ 64) : ∀ k, k ≤ n - 1 → rnd (chn n) k = chp n (n - 1 - k)
  | 0, _ => by
    refine List.ext_getElem (by rw [rnd_len, chn_len, chp_len]) fun i h3 h4 => ?_
    simp [rnd, chp]
    rw [chp_len] at h4
    omega
  | k + 1, hk => by
    have v := chn_val h1 h2
    have ih := chn_rnd h1 h2 k (by omega)
    rw [rnd, ih]
    have key : ∀ s t, s < n → t < n → (gz (rfd (chn n) (chp n (n - 1 - k))) s = gz (rfd (chn n) (chp n (n - 1 - k))) t ↔ gz (chp n (n - 1 - (k + 1))) s = gz (chp n (n - 1 - (k + 1))) t) := fun s t hs ht => by
      rw [rfd_iff (by rw [chn_len]; exact hs) (by rw [chn_len]; exact ht), sg_iff v _ (by rw [chn_len]; exact hs) (by rw [chn_len]; exact ht)]
      have e : (∀ i : Nat, (i : Int) < (chn n).i → (nx (chn n) s i).2 = (nx (chn n) t i).2 ∧ tgt (chp n (n - 1 - k)) (nx (chn n) s i).1 = tgt (chp n (n - 1 - k)) (nx (chn n) t i).1) ↔
          ((nx (chn n) s 0).2 = (nx (chn n) t 0).2 ∧ tgt (chp n (n - 1 - k)) (nx (chn n) s 0).1 = tgt (chp n (n - 1 - k)) (nx (chn n) t 0).1) := by
        constructor
        · intro h; exact h 0 (by show (0 : Int) < 1; omega)
        · intro h i hi
          have hi : (i : Int) < 1 := hi
          obtain rfl : i = 0 := by omega
          exact h
      rw [e, chn_nx hs, chn_nx ht, tgt_nat, tgt_nat, chp_gz hs, chp_gz ht, chp_gz hs, chp_gz ht, chp_gz (show min (s + 1) (n - 1) < n by omega), chp_gz (show min (t + 1) (n - 1) < n by omega)]
      simp only
      by_cases hs1 : s + 1 = n <;> by_cases ht1 : t + 1 = n <;> simp [hs1, ht1] <;> omega
    refine M.anti (rfd_vd _ _) (chp_vd _ _).1 (by rw [rfd_len, chn_len, chp_len]) ?_ ?_
    · rw [rfd_len, chn_len]
      exact fun s t hs ht => (key s t hs ht).1
    · rw [rfd_len, chn_len]
      exact fun s t hs ht => (key s t hs ht).2
theorem chn_lst {n : Nat} (h1 : 1 ≤ n) (h2 : n ≤ 64) : Lst (chn n) (n - 1) := by
  constructor
  · have e : rnd (chn n) (n - 1) = chp n 0 := by rw [chn_rnd h1 h2 _ (Nat.le_refl _), Nat.sub_self]
    rw [rnd, e]
    refine (rsp_iff (chp_vd _ _).1 (by rw [chp_len, chn_len])).2 fun s t hs ht he => ?_
    rw [chn_len] at hs ht
    rw [chp_gz hs, chp_gz ht] at he
    obtain rfl : s = t := by omega
    rfl
  · intro k hk he
    rw [chn_rnd h1 h2 _ (by omega), chn_rnd h1 h2 _ (by omega)] at he
    have := congrArg (fun l => gz l (n - 1)) he
    simp only [chp_gz (show n - 1 < n by omega)] at this
    omega
theorem chn_cnt {n k : Nat} (h1 : 1 ≤ n) (h2 : n ≤ 64) (hk : k ≤ n - 1) : cnt (rnd (chn n) k) = k + 1 := by
  rw [chn_rnd h1 h2 k hk, (chp_vd _ _).2, if_neg (by omega)]
  omega
end Go.Proofs.Ytgafpmgdpigliaa.Mc

namespace Go.Proofs.Ytgafpmgdpigliaa.M

/-- What the reference's Of has found among the first k places for place i. -/
def bk (l : List Int) (i k : Nat) : Int := if gz l i ∈ l.take k then nu (l.take i) (gz l i) else -1
theorem bk_zero (l : List Int) (i : Nat) : bk l i 0 = -1 := by simp [bk]
theorem bk_hit {l : List Int} {i k : Nat} (hk : k < i) (hi : i < l.length) (h : gz l k = gz l i) : bk l i (k + 1) = gz (ofL (l.take i)) k := by
  have h1 : gz l i ∈ l.take (k + 1) := (mem_take (by omega)).2 ⟨k, by omega, h⟩
  rw [bk, if_pos h1, ofL_gz (by rw [List.length_take]; omega), gz_take hk, h]
theorem bk_miss {l : List Int} {i k : Nat} (hk : k < i) (hi : i < l.length) (h : ¬ gz l k = gz l i) : bk l i (k + 1) = bk l i k := by
  have h1 : gz l i ∈ l.take (k + 1) ↔ gz l i ∈ l.take k := by
    rw [mem_take (by omega), mem_take (by omega)]
    constructor
    · rintro ⟨j, hj, e⟩
      have : j ≠ k := by intro e2; subst e2; exact h e
      exact ⟨j, by omega, e⟩
    · rintro ⟨j, hj, e⟩
      exact ⟨j, by omega, e⟩
  unfold bk
  by_cases h2 : gz l i ∈ l.take k
  · rw [if_pos h2, if_pos (h1.2 h2)]
  · rw [if_neg h2, if_neg (fun h3 => h2 (h1.1 h3))]
theorem bk_range (l : List Int) (i k : Nat) : -1 ≤ bk l i k := by unfold bk; split <;> omega
theorem bk_new {l : List Int} {i : Nat} (hi : i < l.length) (h : bk l i i < 0) : ofL (l.take (i + 1)) = ofL (l.take i) ++ [(cnt (l.take i) : Int)] ∧ cnt (l.take (i + 1)) = cnt (l.take i) + 1 := by
  have h1 : ¬ gz l i ∈ l.take i := by
    intro h1
    rw [bk, if_pos h1] at h
    omega
  rw [take_gz hi, ofL_snoc, nu_new h1, cnt_new h1]
  exact ⟨rfl, rfl⟩
theorem bk_old {l : List Int} {i : Nat} (hi : i < l.length) (h : ¬ bk l i i < 0) : ofL (l.take (i + 1)) = ofL (l.take i) ++ [bk l i i] ∧ cnt (l.take (i + 1)) = cnt (l.take i) := by
  have h1 : gz l i ∈ l.take i := by
    apply Classical.byContradiction
    intro h1
    rw [bk, if_neg h1] at h
    omega
  rw [take_gz hi, ofL_snoc, nu_old h1, cnt_old h1, bk, if_pos h1]
  exact ⟨rfl, rfl⟩
theorem cnt_take_le (l : List Int) (k : Nat) : cnt (l.take k) ≤ k := by
  have := cnt_le (l.take k)
  rw [List.length_take] at this
  omega

/-- The reference's Check: the least place with the same number. -/
def Lst (p : List Int) (i j least : Nat) : Prop := least ≤ i ∧ gz p least = gz p i ∧ ∀ m, j ≤ m → m < least → ¬ gz p m = gz p i
theorem Lst.start (p : List Int) (i : Nat) : Lst p i i i := ⟨Nat.le_refl _, rfl, fun m h1 h2 => absurd h2 (by omega)⟩
theorem Lst.hit {p : List Int} {i j : Nat} (hj : j < i) (h : gz p j = gz p i) : Lst p i j j := ⟨by omega, h, fun m h1 h2 => absurd h2 (by omega)⟩
theorem Lst.miss {p : List Int} {i j least : Nat} (h : Lst p i (j + 1) least) (h1 : ¬ gz p j = gz p i) : Lst p i j least := ⟨h.1, h.2.1, fun m hm hm2 => by
  rcases Nat.lt_or_ge j m with h3 | h3
  · exact h.2.2 m (by omega) hm2
  · have : m = j := by omega
    subst this; exact h1⟩
theorem Lst.fin {p : List Int} {i least : Nat} (h : Lst p i 0 least) (hi : i < p.length) : (cnt (p.take least) : Int) = gz (ofL p) i := by
  obtain ⟨h1, h2, h3⟩ := h
  have hn : ¬ gz p least ∈ p.take least := by
    intro hm
    obtain ⟨m, hm, e⟩ := (mem_take (by omega)).1 hm
    exact h3 m (Nat.zero_le _) hm (by rw [e, h2])
  have e1 : gz (ofL p) i = gz (ofL p) least := by rw [ofL_gz hi, ofL_gz (by omega), h2]
  rw [e1, ofL_at (by omega), take_gz (by omega), nu_new hn]
/-- 1 if no number of the first m is that at k. -/
def fst (p : List Int) (k m : Nat) : Int := if gz p k ∈ p.take m then 0 else 1
theorem fst_zero (p : List Int) (k : Nat) : fst p k 0 = 1 := by simp [fst]
theorem fst_hit {p : List Int} {k m : Nat} (hm : m < p.length) (h : gz p m = gz p k) : fst p k (m + 1) = 0 := by
  rw [fst, if_pos ((mem_take (by omega)).2 ⟨m, by omega, h⟩)]
theorem fst_miss {p : List Int} {k m : Nat} (hm : m < p.length) (h : ¬ gz p m = gz p k) : fst p k (m + 1) = fst p k m := by
  have h1 : gz p k ∈ p.take (m + 1) ↔ gz p k ∈ p.take m := by
    rw [mem_take (by omega), mem_take (by omega)]
    constructor
    · rintro ⟨j, hj, e⟩
      have : j ≠ m := by intro e2; subst e2; exact h e
      exact ⟨j, by omega, e⟩
    · rintro ⟨j, hj, e⟩
      exact ⟨j, by omega, e⟩
  unfold fst
  by_cases h2 : gz p k ∈ p.take m
  · rw [if_pos h2, if_pos (h1.2 h2)]
  · rw [if_neg h2, if_neg (fun h3 => h2 (h1.1 h3))]
theorem fst_range (p : List Int) (k m : Nat) : 0 ≤ fst p k m ∧ fst p k m ≤ 1 := by unfold fst; split <;> omega
theorem fst_cnt {p : List Int} {k : Nat} (hk : k < p.length) : (cnt (p.take (k + 1)) : Int) = cnt (p.take k) + fst p k k := by
  rw [take_gz hk]
  unfold fst
  by_cases h : gz p k ∈ p.take k
  · rw [cnt_old h, if_pos h]; omega
  · rw [cnt_new h, if_neg h]; omega
theorem vd_all {p : List Int} (h : ∀ i, i < p.length → gz p i = gz (ofL p) i) : Vd p := (ext_gz (ofL_len p).symm h).symm
theorem vd_not {p : List Int} {i : Nat} (h : ¬ gz p i = gz (ofL p) i) : ¬ Vd p := fun h1 => h (by rw [h1])
/-- The reference's Count. -/
theorem count_up {p : List Int} (h : Vd p) {k : Nat} (hk : k < p.length) (h1 : (cnt (p.take k) : Int) ≤ gz p k) : (cnt (p.take (k + 1)) : Int) = gz p k + 1 := by
  have h2 := h.take (k + 1)
  rw [take_gz hk] at h2 ⊢
  obtain ⟨_, h4⟩ := (vd_step (h.take k)).1 h2
  rw [(h.take k).cnt_next (by omega)]
  omega
theorem count_same {p : List Int} (h : Vd p) {k : Nat} (hk : k < p.length) (h1 : ¬ (cnt (p.take k) : Int) ≤ gz p k) : cnt (p.take (k + 1)) = cnt (p.take k) := by
  have h2 := h.take (k + 1)
  rw [take_gz hk] at h2 ⊢
  obtain ⟨h3, h4⟩ := (vd_step (h.take k)).1 h2
  rw [(h.take k).cnt_same h3 (by omega)]
/-- The program's Count: what is accepted. -/
theorem cnt_bad {p : List Int} {k : Nat} (hk : k < p.length) (hv : Vd (p.take k)) (h : gz p k < 0 ∨ (cnt (p.take k) : Int) < gz p k) : ¬ Vd p := by
  refine not_vd hk fun h1 => ?_
  rw [take_gz hk] at h1
  have := (vd_step hv).1 h1
  omega
theorem cnt_good {p : List Int} {k : Nat} (hk : k < p.length) (hv : Vd (p.take k)) (h1 : 0 ≤ gz p k) (h2 : gz p k ≤ cnt (p.take k)) : Vd (p.take (k + 1)) := by
  rw [take_gz hk]
  exact (vd_step hv).2 ⟨h1, h2⟩
/-- Finer, by program and reference. -/
def bad (p q : List Int) (i k : Nat) : Prop := gz p i = gz p k ∧ ¬ gz q i = gz q k
def Fi (p q : List Int) (i : Nat) : Prop := ∀ a b, a < i → b < a → ¬ bad p q a b
def Fk (p q : List Int) (i k : Nat) : Prop := ∀ b, b < k → ¬ bad p q i b
theorem Fi.start (p q : List Int) : Fi p q 0 := fun a b h => absurd h (by omega)
theorem Fk.start (p q : List Int) (i : Nat) : Fk p q i 0 := fun b h => absurd h (by omega)
theorem Fk.step {p q : List Int} {i k : Nat} (h : Fk p q i k) (h1 : ¬ bad p q i k) : Fk p q i (k + 1) := fun b hb => by
  rcases Nat.lt_or_ge b k with h2 | h2
  · exact h b h2
  · have : b = k := by omega
    subst this; exact h1
theorem Fi.step {p q : List Int} {i : Nat} (h : Fi p q i) (h1 : Fk p q i i) : Fi p q (i + 1) := fun a b ha hb => by
  rcases Nat.lt_or_ge a i with h2 | h2
  · exact h a b h2 hb
  · have : a = i := by omega
    subst this; exact h1 b hb
theorem Fi.fin {p q : List Int} (h : Fi p q p.length) : fin p q := fun i j hi hj e => by
  apply Classical.byContradiction
  intro h1
  rcases Nat.lt_trichotomy i j with h2 | h2 | h2
  · exact h j i hj h2 ⟨e.symm, fun e2 => h1 e2.symm⟩
  · subst h2; exact h1 rfl
  · exact h i j hi h2 ⟨e, h1⟩
theorem not_fin {p q : List Int} {i k : Nat} (hi : i < p.length) (hk : k < i) (h : bad p q i k) : ¬ fin p q := fun h1 => h.2 (h1 i k hi (by omega) h.1)
open Classical in
/-- Is it finer? -/
noncomputable def finB (p q : List Int) : Bool := decide (fin p q)
theorem finB_yes {p q : List Int} (h : fin p q) : finB p q = true := by simp [finB, h]
theorem finB_no {p q : List Int} (h : ¬ fin p q) : finB p q = false := by simp [finB, h]
noncomputable def finI (p q : List Int) : Int := if finB p q then 1 else 0
theorem finI_yes {p q : List Int} (h : fin p q) : finI p q = 1 := by simp [finI, finB_yes h]
theorem finI_no {p q : List Int} (h : ¬ fin p q) : finI p q = 0 := by simp [finI, finB_no h]
/-- The reference's pairs, one at a time. -/
theorem rpRow_yes {p q : List Int} {i k : Nat} (h : gz p i = gz p k ∨ gz q i = gz q k) : rpRow p q i (k + 1) = rpRow p q i k ++ [(k, i)] := by
  unfold rpRow
  rw [List.range_succ, List.filter_append, List.map_append]
  congr 1
  have : (gz p i == gz p k || gz q i == gz q k) = true := by simpa using h
  simp [this]
theorem rpRow_no {p q : List Int} {i k : Nat} (h : ¬ (gz p i = gz p k ∨ gz q i = gz q k)) : rpRow p q i (k + 1) = rpRow p q i k := by
  unfold rpRow
  rw [List.range_succ, List.filter_append, List.map_append]
  have : (gz p i == gz p k || gz q i == gz q k) = false := by simpa using h
  simp [this]
theorem rp_succ (p q : List Int) (n : Nat) : rp p q (n + 1) = rp p q n ++ rpRow p q n n := by simp [rp, List.range_succ]
theorem rpRow_zero (p q : List Int) (i : Nat) : rpRow p q i 0 = [] := rfl
theorem rp_zero (p q : List Int) : rp p q 0 = [] := rfl
/-- The reference's Close: the inner loop. -/
def insN (l : List Int) (x y k : Nat) : List Int := (ins l x y).take k ++ l.drop k
theorem insN_zero (l : List Int) (x y : Nat) : insN l x y 0 = l := by simp [insN]
theorem insN_len (l : List Int) (x y k : Nat) : (insN l x y k).length = l.length := by
  unfold insN
  rw [List.length_append, List.length_take, ins_len, List.length_drop]
  omega
theorem insN_gz {l : List Int} {x y k i : Nat} (hi : i < l.length) : gz (insN l x y k) i = if i < k then gz (ins l x y) i else gz l i := by
  unfold insN
  rcases Nat.lt_or_ge i k with h | h
  · rw [if_pos h, gz_left (by rw [List.length_take, ins_len]; omega), gz_take h]
  · rw [if_neg (by omega)]
    unfold gz
    rw [List.getElem?_append_right (by rw [List.length_take]; omega), List.getElem?_drop, List.length_take, ins_len]
    congr 2
    omega
theorem insN_at {l : List Int} {x y k : Nat} (hk : k < l.length) : gz (insN l x y k) k = gz l k := by rw [insN_gz hk, if_neg (by omega)]
theorem insN_done (l : List Int) (x y : Nat) : insN l x y l.length = ins l x y := by
  unfold insN
  rw [List.take_of_length_le (by rw [ins_len]; omega), List.drop_of_length_le (Nat.le_refl _), List.append_nil]
theorem insN_hit {l : List Int} {x y k : Nat} (hk : k < l.length) (h : gz l k = gz l y) : (insN l x y k).set k (gz l x) = insN l x y (k + 1) := by
  refine ext_gz (by rw [List.length_set, insN_len, insN_len]) fun i hi => ?_
  rw [List.length_set, insN_len] at hi
  rw [gz_set (by rw [insN_len]; exact hk), insN_gz hi, insN_gz hi]
  by_cases h1 : i = k
  · subst h1
    rw [if_pos rfl, if_pos (by omega), ins, gz_map hi, if_pos h]
  · rw [if_neg h1]
    by_cases h2 : i < k
    · rw [if_pos h2, if_pos (by omega)]
    · rw [if_neg h2, if_neg (by omega)]
theorem insN_miss {l : List Int} {x y k : Nat} (hk : k < l.length) (h : ¬ gz l k = gz l y) : insN l x y k = insN l x y (k + 1) := by
  refine ext_gz (by rw [insN_len, insN_len]) fun i hi => ?_
  rw [insN_len] at hi
  rw [insN_gz hi, insN_gz hi]
  by_cases h1 : i = k
  · subst h1
    rw [if_neg (by omega), if_pos (by omega), ins, gz_map hi, if_neg h]
  · by_cases h2 : i < k
    · rw [if_pos h2, if_pos (by omega)]
    · rw [if_neg h2, if_neg (by omega)]
theorem closeR_step {n : Nat} {ps : List (Nat × Nat)} {k x y : Nat} (h : ps[k]? = some (x, y)) : closeR n (ps.take (k + 1)) = ins (closeR n (ps.take k)) x y := by
  rw [List.take_add_one, h]
  exact closeR_snoc _ _ _
/-- The program's pairs. -/
structure Lk (p : List Int) (k : Nat) (fs : List Int) : Prop where
  len : fs.length = cnt (p.take k)
  at_ : ∀ b : Nat, b < cnt (p.take k) → gz fs b = p.idxOf (b : Int)
theorem Lk.start (p : List Int) : Lk p 0 [] := ⟨rfl, fun b h => absurd h (by simp [cnt_nil])⟩
theorem Lk.new {p fs : List Int} {k : Nat} (h : Lk p k fs) (hp : Vd p) (hk : k < p.length) (h1 : gz p k = fs.length) : Lk p (k + 1) (fs ++ [(k : Int)]) := by
  have hv := hp.take (k + 1)
  have e := cnt_bad (p := p) hk (hp.take k)
  have hc : cnt (p.take (k + 1)) = cnt (p.take k) + 1 := by
    rw [take_gz hk, (hp.take k).cnt_next (by rw [h1, h.len])]
  refine ⟨by rw [List.length_append, List.length_singleton, h.len, hc], fun b hb => ?_⟩
  rw [hc] at hb
  rcases Nat.lt_or_ge b (cnt (p.take k)) with h2 | h2
  · rw [gz_left (by rw [h.len]; exact h2)]
    exact h.at_ b h2
  · have hb2 : b = fs.length := by rw [h.len]; omega
    subst hb2
    rw [gz_snoc, ← h1]
    have hnot : ¬ gz p k ∈ p.take k := fun hm => by
      have := (hp.take k).bound hm
      rw [h1, h.len] at this
      omega
    have e2 : p.idxOf (gz p k) = k := by
      have hs : p = p.take k ++ (gz p k :: p.drop (k + 1)) := by
        conv => lhs; rw [← List.take_append_drop k p, List.drop_eq_getElem_cons hk]
        simp [gz, List.getElem?_eq_getElem hk]
      have h3 := List.idxOf_append (l₁ := p.take k) (l₂ := gz p k :: p.drop (k + 1)) (a := gz p k)
      rw [← hs, if_neg hnot] at h3
      rw [h3]
      simp
      omega
    rw [e2]
theorem Lk.old {p fs : List Int} {k : Nat} (h : Lk p k fs) (hp : Vd p) (hk : k < p.length) (h1 : ¬ gz p k = fs.length) : Lk p (k + 1) fs := by
  have h2 := vd_gz hp hk
  have h3 := hp.take (k + 1)
  rw [take_gz hk] at h3
  have h4 := ((vd_step (hp.take k)).1 h3)
  have hc : cnt (p.take (k + 1)) = cnt (p.take k) := by
    rw [take_gz hk, (hp.take k).cnt_same h2.1 (by have := h.len; omega)]
  exact ⟨by rw [hc]; exact h.len, fun b hb => h.at_ b (by rw [hc] at hb; exact hb)⟩
theorem Lk.got {p fs : List Int} {k : Nat} (h : Lk p (k + 1) fs) (hp : Vd p) (hk : k < p.length) : (gz p k).toNat < fs.length ∧ gz fs (gz p k).toNat = p.idxOf (gz p k) := by
  have hm : gz p k ∈ p.take (k + 1) := (mem_take (by omega)).2 ⟨k, by omega, rfl⟩
  have hb := (hp.take (k + 1)).bound hm
  have e : ((gz p k).toNat : Int) = gz p k := by omega
  have := h.at_ (gz p k).toNat (by omega)
  rw [e] at this
  exact ⟨by rw [h.len]; omega, this⟩
def lkN (p : List Int) (k : Nat) : List (Nat × Nat) := (List.range k).map fun i => (p.idxOf (gz p i), i)
theorem lkN_succ (p : List Int) (k : Nat) : lkN p (k + 1) = lkN p k ++ [(p.idxOf (gz p k), k)] := by simp [lkN, List.range_succ]
/-- The law's partitions: elements behind the list are 0. -/
def pad (x : List Int) (n : Nat) : List Int := (List.range n).map fun i => gz x i
theorem pad_len (x : List Int) (n : Nat) : (pad x n).length = n := by simp [pad]
theorem pad_succ (x : List Int) (n : Nat) : pad x (n + 1) = pad x n ++ [gz x n] := by simp [pad, List.range_succ]
def mr (p q : List Int) (k : Nat) : List Int := (List.range k).map fun i => gz p i * 1000 + gz q i
theorem mr_succ (p q : List Int) (k : Nat) : mr p q (k + 1) = mr p q k ++ [gz p k * 1000 + gz q k] := by simp [mr, List.range_succ]
theorem mr_done (p q : List Int) : mr p q p.length = meetR p q := rfl
end Go.Proofs.Ytgafpmgdpigliaa.M
