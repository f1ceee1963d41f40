/-
  The mathematics of words that separate: how long the separating word of two states is, its first symbols, what is known of all pairs when the words of a length are being searched. No program. No statement is proved here.
-/
import Derived.Test.YtgafpmgdpigliaaRmZ
import Derived.Test.YtgafpmgdpigliaaWkZ
namespace Go.Proofs.Ytgafpmgdpigliaa.Mc
open M (gz Vd cnt fin le rk)

/-- The least number from 1 to k of rounds that part two states, 0 if none does. -/
def slF (m : Ma) (s t : Nat) : Nat → Nat
  | 0 => 0
  | k + 1 => if slF m s t k ≠ 0 then slF m s t k else if gz (rnd m (k + 1)) s = gz (rnd m (k + 1)) t then 0 else k + 1
/-- How long the separating word of two states is, 0 if there is none. -/
def sl (m : Ma) (s t : Nat) : Nat := slF m s t m.r.length
theorem slF_zero {m : Ma} {s t : Nat} : ∀ {k : Nat}, slF m s t k = 0 → ∀ j, 1 ≤ j → j ≤ k → gz (rnd m j) s = gz (rnd m j) t
  | 0, _, j, h1, h2 => by omega
  | k + 1, h, j, h1, h2 => by
    unfold slF at h
    by_cases h0 : slF m s t k ≠ 0
    · rw [if_pos h0] at h; exact absurd h h0
    · rw [if_neg h0] at h
      by_cases he : gz (rnd m (k + 1)) s = gz (rnd m (k + 1)) t
      · by_cases hj : j = k + 1
        · subst hj; exact he
        · exact slF_zero (k := k) (Classical.byContradiction h0) j h1 (by omega)
      · rw [if_neg he] at h; omega
theorem slF_pos {m : Ma} {s t L : Nat} : ∀ {k : Nat}, slF m s t k = L + 1 → L + 1 ≤ k ∧ (∀ j, 1 ≤ j → j ≤ L → gz (rnd m j) s = gz (rnd m j) t) ∧ gz (rnd m (L + 1)) s ≠ gz (rnd m (L + 1)) t
  | 0, h => by simp [slF] at h
  | k + 1, h => by
    unfold slF at h
    by_cases h0 : slF m s t k ≠ 0
    · rw [if_pos h0] at h
      obtain ⟨h1, h2, h3⟩ := slF_pos h
      exact ⟨by omega, h2, h3⟩
    · rw [if_neg h0] at h
      by_cases he : gz (rnd m (k + 1)) s = gz (rnd m (k + 1)) t
      · rw [if_pos he] at h; omega
      · rw [if_neg he] at h
        obtain rfl : k = L := by omega
        exact ⟨Nat.le_refl _, slF_zero (by omega), he⟩
section
variable {m : Ma} {s t : Nat}
theorem eqv_zero (m : Ma) (s t : Int) : Eqv m 0 s t := fun w _ hl => by
  have : w = [] := List.length_eq_zero_iff.1 (by omega)
  subst this; rfl
theorem eqv_none (m : Ma) (k : Nat) : Eqv m k (-1) (-1) := eqv_refl _ _ _
theorem eqv_all (v : Val m) (hs : s < m.r.length) (ht : t < m.r.length) (h : Eqv m m.r.length s t) (k : Nat) : Eqv m k s t := fun w hw _ => by
  have h1 := (rnd_iff v m.r.length hs ht).2 h
  rw [cls_all v.r0] at h1
  exact cls_run v hs ht h1 w hw
theorem sl_zero (v : Val m) (hs : s < m.r.length) (ht : t < m.r.length) : sl m s t = 0 ↔ ∀ k, Eqv m k s t := by
  constructor
  · intro h k
    have h0 := v.r0
    exact eqv_all v hs ht ((rnd_iff v _ hs ht).1 (slF_zero h _ h0 (Nat.le_refl _))) k
  · intro h
    rcases Nat.eq_zero_or_pos (sl m s t) with h1 | h1
    · exact h1
    · obtain ⟨L, hL⟩ : ∃ L, sl m s t = L + 1 := ⟨sl m s t - 1, by omega⟩
      obtain ⟨_, _, h3⟩ := slF_pos hL
      exact absurd ((rnd_iff v _ hs ht).2 (h _)) h3
theorem sl_pos (v : Val m) (hs : s < m.r.length) (ht : t < m.r.length) {L : Nat} (h : sl m s t = L + 1) : Eqv m L s t ∧ ¬ Eqv m (L + 1) s t := by
  obtain ⟨_, h2, h3⟩ := slF_pos h
  refine ⟨?_, fun h4 => h3 ((rnd_iff v _ hs ht).2 h4)⟩
  cases L with
  | zero => exact eqv_zero _ _ _
  | succ L => exact (rnd_iff v _ hs ht).1 (h2 _ (by omega) (Nat.le_refl _))
theorem sl_le (v : Val m) (hs : s < m.r.length) (ht : t < m.r.length) {k : Nat} (h : ¬ Eqv m k s t) : 1 ≤ sl m s t ∧ sl m s t ≤ k := by
  rcases Nat.eq_zero_or_pos (sl m s t) with h1 | h1
  · exact absurd ((sl_zero v hs ht).1 h1 k) h
  · refine ⟨h1, ?_⟩
    obtain ⟨L, hL⟩ : ∃ L, sl m s t = L + 1 := ⟨sl m s t - 1, by omega⟩
    obtain ⟨h2, _⟩ := sl_pos v hs ht hL
    rcases Nat.lt_or_ge k (L + 1) with h4 | h4
    · exact absurd (eqv_mono h2 (by omega)) h
    · omega
theorem sl_eqv (v : Val m) (hs : s < m.r.length) (ht : t < m.r.length) {k : Nat} (h : sl m s t = 0 ∨ k < sl m s t) : Eqv m k s t := by
  rcases h with h | h
  · exact (sl_zero v hs ht).1 h k
  · obtain ⟨L, hL⟩ : ∃ L, sl m s t = L + 1 := ⟨sl m s t - 1, by omega⟩
    exact eqv_mono (sl_pos v hs ht hL).1 (by omega)
theorem slF_comm (m : Ma) (s t : Nat) : ∀ k, slF m s t k = slF m t s k
  | 0 => rfl
  | k + 1 => by
    unfold slF
    rw [slF_comm m s t k]
    by_cases h : gz (rnd m (k + 1)) s = gz (rnd m (k + 1)) t
    · rw [if_pos h, if_pos h.symm]
    · rw [if_neg h, if_neg (c := gz (rnd m (k + 1)) t = gz (rnd m (k + 1)) s) (fun e => h e.symm)]
theorem sl_comm (m : Ma) (s t : Nat) : sl m s t = sl m t s := slF_comm m s t _
theorem slF_same (m : Ma) (s : Nat) : ∀ k, slF m s s k = 0
  | 0 => rfl
  | k + 1 => by unfold slF; rw [slF_same m s k]; simp
theorem sl_same (m : Ma) (s : Nat) : sl m s s = 0 := slF_same m s _
theorem sl_lt (v : Val m) (hs : s < m.r.length) (ht : t < m.r.length) : sl m s t < m.r.length := by
  have h0 := v.r0
  rcases Nat.eq_zero_or_pos (sl m s t) with h1 | h1
  · omega
  · obtain ⟨L, hL⟩ : ∃ L, sl m s t = L + 1 := ⟨sl m s t - 1, by omega⟩
    obtain ⟨_, h2, h3⟩ := slF_pos hL
    have h4 := lst_lt (m := m) h0
    rcases Nat.lt_or_ge L (lst m) with h5 | h5
    · omega
    · exfalso
      have h6 := (sl_pos v hs ht hL).1
      rw [← rnd_iff v _ hs ht, cls_from h0 h5, ← cls_from h0 (k := L + 1) (by omega)] at h6
      exact h3 h6

/-- How many symbols must follow an input until two states are parted, and whether any do, as far as f knows. -/
def rsB (f : Nat → Nat → Nat) (x y : Ed) : Bool := decide (x.2 ≠ y.2) || (decide (x.1 ≠ -1) && decide (f x.1.toNat y.1.toNat ≠ 0))
def rsN (f : Nat → Nat → Nat) (x y : Ed) : Nat := if x.2 ≠ y.2 then 0 else if x.1 = -1 then 0 else f x.1.toNat y.1.toNat
/-- An input begins a word of L + 1 symbols that parts two states. -/
def hit (m : Ma) (s t L : Nat) (i : Nat) : Bool := rsB (sl m) (nx m s i) (nx m t i) && (rsN (sl m) (nx m s i) (nx m t i) == L)
theorem hit_iff (v : Val m) (hs : s < m.r.length) (ht : t < m.r.length) {i : Nat} (hi : (i : Int) < m.i) {L : Nat} :
    hit m s t L i = true ↔ ((nx m s i).2 ≠ (nx m t i).2 ∧ L = 0) ∨ ((nx m s i).2 = (nx m t i).2 ∧ L ≠ 0 ∧ ∃ a b : Nat, (nx m s i).1 = a ∧ (nx m t i).1 = b ∧ a < m.r.length ∧ b < m.r.length ∧ sl m a b = L) := by
  by_cases ho : (nx m s i).2 = (nx m t i).2
  · rcases both v hs ht hi ho with ⟨h1, h2⟩ | ⟨a, b, h1, h2, h3, h4⟩
    · unfold hit rsB rsN
      simp [ho, h1]
    · unfold hit rsB rsN
      rw [h1, h2]
      have hn : (a : Int) ≠ -1 := by omega
      simp only [ho, hn, ne_eq, not_true_eq_false, decide_false, Bool.false_or, not_false_eq_true, decide_true, Bool.true_and, if_false, Int.toNat_natCast, Bool.and_eq_true, decide_eq_true_eq, beq_iff_eq, false_and, false_or, true_and]
      constructor
      · rintro ⟨h5, rfl⟩
        exact ⟨h5, a, b, rfl, rfl, h3, h4, rfl⟩
      · rintro ⟨h5, a', b', e1, e2, _, _, h6⟩
        obtain rfl : a = a' := by omega
        obtain rfl : b = b' := by omega
        exact ⟨by omega, h6⟩
  · unfold hit rsB rsN
    simp [ho]
    exact ⟨fun h => h.symm, fun h => h.symm⟩
theorem hit_ge (v : Val m) (hs : s < m.r.length) (ht : t < m.r.length) {i : Nat} (hi : (i : Int) < m.i) {L : Nat} (h : hit m s t L i = true) : 1 ≤ sl m s t ∧ sl m s t ≤ L + 1 := by
  refine sl_le v hs ht fun h1 => ?_
  obtain ⟨h2, h3⟩ := (eqv_step.1 h1) i hi
  rcases (hit_iff v hs ht hi).1 h with ⟨h4, _⟩ | ⟨_, h5, a, b, e1, e2, h6, h7, h8⟩
  · exact h4 h2
  · rw [e1, e2] at h3
    obtain ⟨K, hK⟩ : ∃ K, sl m a b = K + 1 := ⟨sl m a b - 1, by omega⟩
    have := (sl_pos v h6 h7 hK).2
    rw [show K + 1 = L by omega] at this
    exact this h3
theorem hit_ex (v : Val m) (hs : s < m.r.length) (ht : t < m.r.length) {L : Nat} (h : sl m s t = L + 1) : ∃ i : Nat, (i : Int) < m.i ∧ hit m s t L i = true := by
  obtain ⟨h1, h2⟩ := sl_pos v hs ht h
  apply Classical.byContradiction
  intro h3
  apply h2
  rw [eqv_step]
  intro i hi
  have hno : ¬ hit m s t L i = true := fun h4 => h3 ⟨i, hi, h4⟩
  rw [hit_iff v hs ht hi] at hno
  have hout : (nx m s i).2 = (nx m t i).2 := by
    cases L with
    | zero => exact Classical.byContradiction fun h5 => hno (Or.inl ⟨h5, rfl⟩)
    | succ L => exact ((eqv_step.1 h1) i hi).1
  refine ⟨hout, ?_⟩
  rcases both v hs ht hi hout with ⟨h5, h6⟩ | ⟨a, b, h5, h6, h7, h8⟩
  · rw [h5, h6]; exact eqv_none _ _
  · rw [h5, h6]
    refine sl_eqv v h7 h8 ?_
    have hL : L = 0 ∨ Eqv m (L - 1) a b := by
      cases L with
      | zero => exact Or.inl rfl
      | succ L => right; have := ((eqv_step.1 h1) i hi).2; rwa [h5, h6] at this
    rcases Nat.eq_zero_or_pos (sl m a b) with h9 | h9
    · exact Or.inl h9
    · refine Or.inr ?_
      have h10 : ¬ (L ≠ 0 ∧ sl m a b = L) := fun ⟨x, y⟩ => hno (Or.inr ⟨hout, x, a, b, h5, h6, h7, h8, y⟩)
      rcases hL with h11 | h11
      · omega
      · obtain ⟨K, hK⟩ : ∃ K, sl m a b = K + 1 := ⟨sl m a b - 1, by omega⟩
        have h12 := (sl_pos v h7 h8 hK).2
        rcases Nat.lt_or_ge (L - 1) (K + 1) with h13 | h13
        · omega
        · exact absurd (eqv_mono h11 h13) h12
/-- The first symbol of the separating word. -/
def sm (m : Ma) (s t : Nat) : Nat := ((List.range m.i.toNat).find? (hit m s t (sl m s t - 1))).getD 0
theorem sm_of {i : Nat} (hi : (i : Int) < m.i) (h : hit m s t (sl m s t - 1) i = true) (h2 : ∀ j, j < i → hit m s t (sl m s t - 1) j = false) : sm m s t = i := by
  unfold sm
  rw [(List.find?_range_eq_some (n := m.i.toNat) (i := i)).2 ⟨h, by simp; omega, fun j hj => by rw [h2 j hj]; rfl⟩]
  rfl
theorem sm_hit (v : Val m) (hs : s < m.r.length) (ht : t < m.r.length) (h : sl m s t ≠ 0) : ((sm m s t : Nat) : Int) < m.i ∧ hit m s t (sl m s t - 1) (sm m s t) = true ∧ ∀ j, j < sm m s t → hit m s t (sl m s t - 1) j = false := by
  obtain ⟨i, h1, h2⟩ := hit_ex v hs ht (L := sl m s t - 1) (by omega)
  cases hf : (List.range m.i.toNat).find? (hit m s t (sl m s t - 1)) with
  | none =>
    rw [List.find?_eq_none] at hf
    exact absurd h2 (hf i (by simp; omega))
  | some k =>
    have hk := List.find?_range_eq_some.1 hf
    have : sm m s t = k := by unfold sm; rw [hf]; rfl
    rw [this]
    refine ⟨by have := hk.2.1; simp at this; omega, hk.1, fun j hj => by have := hk.2.2 j hj; simpa using this⟩
theorem hit_comm (m : Ma) (s t L i : Nat) (v : Val m) (hs : s < m.r.length) (ht : t < m.r.length) (hi : (i : Int) < m.i) : hit m s t L i = hit m t s L i := by
  rw [Bool.eq_iff_iff, hit_iff v hs ht hi, hit_iff v ht hs hi]
  constructor
  · rintro (⟨h1, h2⟩ | ⟨h1, h2, a, b, h3, h4, h5, h6, h7⟩)
    · exact Or.inl ⟨fun e => h1 e.symm, h2⟩
    · exact Or.inr ⟨h1.symm, h2, b, a, h4, h3, h6, h5, by rw [sl_comm]; exact h7⟩
  · rintro (⟨h1, h2⟩ | ⟨h1, h2, a, b, h3, h4, h5, h6, h7⟩)
    · exact Or.inl ⟨fun e => h1 e.symm, h2⟩
    · exact Or.inr ⟨h1.symm, h2, b, a, h4, h3, h6, h5, by rw [sl_comm]; exact h7⟩
theorem sm_comm (v : Val m) (hs : s < m.r.length) (ht : t < m.r.length) (h : sl m s t ≠ 0) : sm m s t = sm m t s := by
  obtain ⟨h1, h2, h3⟩ := sm_hit v hs ht h
  symm
  refine sm_of h1 ?_ fun j hj => ?_
  · rw [sl_comm m t s, ← hit_comm m s t _ _ v hs ht h1]; exact h2
  · rw [sl_comm m t s, ← hit_comm m s t _ _ v hs ht (by omega)]; exact h3 j hj
/-- The separating word, its length given. -/
def sw (m : Ma) : Nat → Nat → Nat → List Int
  | 0, _, _ => []
  | k + 1, s, t => (sm m s t : Int) :: sw m k (nx m s (sm m s t)).1.toNat (nx m t (sm m s t)).1.toNat
theorem sw_len (m : Ma) : ∀ (k s t : Nat), (sw m k s t).length = k
  | 0, _, _ => rfl
  | k + 1, s, t => by unfold sw; rw [List.length_cons, sw_len m k]
/-- Behind its first symbol: the states to which this leads. -/
theorem sw_next (v : Val m) (hs : s < m.r.length) (ht : t < m.r.length) {L : Nat} (h : sl m s t = L + 1) :
    (L = 0 ∧ (nx m s (sm m s t)).2 ≠ (nx m t (sm m s t)).2) ∨ (L ≠ 0 ∧ (nx m s (sm m s t)).2 = (nx m t (sm m s t)).2 ∧ ∃ a b : Nat, (nx m s (sm m s t)).1 = a ∧ (nx m t (sm m s t)).1 = b ∧ a < m.r.length ∧ b < m.r.length ∧ sl m a b = L) := by
  obtain ⟨h1, h2, _⟩ := sm_hit v hs ht (by omega)
  rw [h, Nat.add_sub_cancel, hit_iff v hs ht h1] at h2
  rcases h2 with ⟨h3, h4⟩ | ⟨h3, h4, h5⟩
  · exact Or.inl ⟨h4, h3⟩
  · exact Or.inr ⟨h4, h3, h5⟩
theorem sw_wd (v : Val m) : ∀ (L s t : Nat), s < m.r.length → t < m.r.length → sl m s t = L → Wd m (sw m L s t)
  | 0, _, _, _, _, _ => fun c hc => by simp [sw] at hc
  | L + 1, s, t, hs, ht, h => by
    obtain ⟨h1, _, _⟩ := sm_hit v hs ht (by omega)
    intro c hc
    unfold sw at hc
    rcases List.mem_cons.1 hc with rfl | hc
    · omega
    · rcases sw_next v hs ht h with ⟨rfl, _⟩ | ⟨_, _, a, b, e1, e2, h5, h6, h7⟩
      · simp [sw] at hc
      · rw [e1, e2, Int.toNat_natCast, Int.toNat_natCast] at hc
        exact sw_wd v L a b h5 h6 h7 c hc
theorem sw_run (v : Val m) : ∀ (L s t : Nat), s < m.r.length → t < m.r.length → sl m s t = L + 1 → run m s (sw m (L + 1) s t) ≠ run m t (sw m (L + 1) s t)
  | 0, s, t, hs, ht, h => by
    rcases sw_next v hs ht h with ⟨_, h1⟩ | ⟨h1, _⟩
    · intro e
      unfold sw at e
      simp only [run, List.cons.injEq] at e
      exact h1 e.1
    · exact absurd rfl h1
  | L + 1, s, t, hs, ht, h => by
    rcases sw_next v hs ht h with ⟨h1, _⟩ | ⟨_, _, a, b, e1, e2, h5, h6, h7⟩
    · omega
    · intro e
      unfold sw at e
      simp only [run, List.cons.injEq] at e
      rw [e1, e2, Int.toNat_natCast, Int.toNat_natCast] at e
      exact sw_run v L a b h5 h6 h7 e.2
theorem sw_lex (v : Val m) : ∀ (L s t : Nat), s < m.r.length → t < m.r.length → sl m s t = L + 1 → ∀ w, Wd m w → w.length = L + 1 → run m s w ≠ run m t w → ∀ r : Int, M.rkF m.i r (sw m (L + 1) s t) ≤ M.rkF m.i r w := by
  intro L
  induction L with
  | zero =>
    intro s t hs ht h w hw hl hne r
    obtain ⟨c, w, rfl⟩ : ∃ c w', w = c :: w' := by
      cases w with
      | nil => simp at hl
      | cons c w' => exact ⟨c, w', rfl⟩
    obtain rfl : w = [] := List.length_eq_zero_iff.1 (by simpa using hl)
    have hc := hw c (by simp)
    obtain ⟨j, rfl⟩ := Int.eq_ofNat_of_zero_le hc.1
    obtain ⟨h1, h2, h3⟩ := sm_hit v hs ht (by omega)
    have hj : hit m s t 0 j = true := by
      rw [hit_iff v hs ht hc.2]
      refine Or.inl ⟨fun e => hne ?_, rfl⟩
      simp [run]; exact e
    have hge : sm m s t ≤ j := by
      rcases Nat.lt_or_ge j (sm m s t) with h4 | h4
      · have := h3 j h4
        rw [h, Nat.add_sub_cancel, hj] at this; cases this
      · exact h4
    simp only [sw, M.rkF_cons, M.rkF_nil]
    omega
  | succ L ih =>
    intro s t hs ht h w hw hl hne r
    obtain ⟨c, w, rfl⟩ : ∃ c w', w = c :: w' := by
      cases w with
      | nil => simp at hl
      | cons c w' => exact ⟨c, w', rfl⟩
    have hl' : w.length = L + 1 := by simpa using hl
    have hc := hw c (by simp)
    have hw' : Wd m w := fun d hd => hw d (by simp [hd])
    obtain ⟨j, rfl⟩ := Int.eq_ofNat_of_zero_le hc.1
    obtain ⟨h1, h2, h3⟩ := sm_hit v hs ht (by omega)
    rw [h, Nat.add_sub_cancel] at h2 h3
    have hout : (nx m s j).2 = (nx m t j).2 := ((eqv_step.1 (eqv_mono (sl_pos v hs ht h).1 (j := 0 + 1) (by omega))) j hc.2).1
    have hne' : run m (nx m s j).1 w ≠ run m (nx m t j).1 w := fun e => hne (by simp only [run]; rw [hout, e])
    obtain ⟨a, b, e1, e2, ha, hb⟩ : ∃ a b : Nat, (nx m s j).1 = a ∧ (nx m t j).1 = b ∧ a < m.r.length ∧ b < m.r.length := by
      rcases both v hs ht hc.2 hout with ⟨x, y⟩ | x
      · rw [x, y] at hne'; exact absurd rfl hne'
      · exact x
    rw [e1, e2] at hne'
    have hab := sl_le v ha hb (k := L + 1) fun e => hne' (e w hw' (by omega))
    have heq : Eqv m L a b := by
      have := ((eqv_step.1 (sl_pos v hs ht h).1) j hc.2).2
      rwa [e1, e2] at this
    have hsl : sl m a b = L + 1 := by
      obtain ⟨K, hK⟩ : ∃ K, sl m a b = K + 1 := ⟨sl m a b - 1, by omega⟩
      rcases Nat.lt_or_ge K L with h4 | h4
      · exact absurd (eqv_mono heq (j := K + 1) (by omega)) (sl_pos v ha hb hK).2
      · omega
    have hj : hit m s t (L + 1) j = true := (hit_iff v hs ht hc.2).2 (Or.inr ⟨hout, by omega, a, b, e1, e2, ha, hb, hsl⟩)
    have hge : sm m s t ≤ j := by
      rcases Nat.lt_or_ge j (sm m s t) with h4 | h4
      · have := h3 j h4
        rw [hj] at this; cases this
      · exact h4
    have hwd := sw_wd v _ s t hs ht h
    rw [show sw m (L + 1 + 1) s t = (sm m s t : Int) :: sw m (L + 1) (nx m s (sm m s t)).1.toNat (nx m t (sm m s t)).1.toNat from rfl] at hwd ⊢
    have hwd' : Wd m (sw m (L + 1) (nx m s (sm m s t)).1.toNat (nx m t (sm m s t)).1.toNat) := fun d hd => hwd d (by simp [hd])
    rw [M.rkF_cons, M.rkF_cons]
    rcases Nat.lt_or_ge (sm m s t) j with h5 | h5
    · exact Int.le_of_lt (M.rkF_lt v.i0 (by rw [sw_len, hl']) hwd' hw' (by omega))
    · obtain rfl : j = sm m s t := by omega
      rw [e1, e2, Int.toNat_natCast, Int.toNat_natCast]
      exact ih a b ha hb hsl w hw' hl' hne' _
/-- It is the least of all words that separate. -/
theorem sw_le (v : Val m) (hs : s < m.r.length) (ht : t < m.r.length) {w : List Int} (hw : Wd m w) (hne : run m s w ≠ run m t w) : sl m s t ≠ 0 ∧ rk m.i (sw m (sl m s t) s t) ≤ rk m.i w := by
  obtain ⟨h1, h2⟩ := sl_le v hs ht (k := w.length) fun e => hne (e w hw (Nat.le_refl _))
  refine ⟨by omega, ?_⟩
  rcases Nat.lt_or_ge (sl m s t) w.length with h3 | h3
  · exact Int.le_of_lt (M.rk_short v.i0 (by rw [sw_len]; exact h3) (sw_wd v _ s t hs ht rfl) hw)
  · obtain ⟨L, hL⟩ : ∃ L, sl m s t = L + 1 := ⟨sl m s t - 1, by omega⟩
    rw [hL]
    exact sw_lex v L s t hs ht hL w hw (by omega) hne 0
theorem sw_sep (v : Val m) (hs : s < m.r.length) (ht : t < m.r.length) (h : sl m s t ≠ 0) : run m s (sw m (sl m s t) s t) ≠ run m t (sw m (sl m s t) s t) := by
  obtain ⟨L, hL⟩ : ∃ L, sl m s t = L + 1 := ⟨sl m s t - 1, by omega⟩
  rw [hL]
  exact sw_run v L s t hs ht hL
/-- The separating word of two states, the empty one if there is none. -/
def sepw (m : Ma) (s t : Nat) : List Int := sw m (sl m s t) s t
theorem sepw_len (m : Ma) (s t : Nat) : (sepw m s t).length = sl m s t := sw_len _ _ _ _
theorem sepw_comm (v : Val m) (hs : s < m.r.length) (ht : t < m.r.length) : sepw m s t = sepw m t s := by
  unfold sepw
  by_cases h : sl m s t = 0
  · rw [sl_comm m t s, h]; rfl
  · refine rk_inj v.i0 (sw_wd v _ s t hs ht rfl) (sw_wd v _ t s ht hs rfl) ?_
    have h2 : sl m t s ≠ 0 := by rw [sl_comm]; exact h
    have h3 := (sw_le v hs ht (sw_wd v _ t s ht hs rfl) (fun e => sw_sep v ht hs h2 e.symm)).2
    have h4 := (sw_le v ht hs (sw_wd v _ s t hs ht rfl) (fun e => sw_sep v hs ht h e.symm)).2
    unfold sepw at *
    omega
/-- The words are tried one after the other: none before w separates. -/
structure SI (m : Ma) (s t : Nat) (w : List Int) : Prop where
  wd : Wd m w
  no : ∀ u, Wd m u → rk m.i u < rk m.i w → run m s u = run m t u
theorem SI.start (v : Val m) : SI m s t [] := ⟨fun c hc => by simp at hc, fun u hu h => by rw [M.rk_nil] at h; have := rk_nonneg v.i0 hu; omega⟩
theorem SI.step (v : Val m) {w : List Int} (h : SI m s t w) (hw : run m s w = run m t w) : SI m s t (M.next m.i w) := by
  obtain ⟨h1, h2⟩ := next_wd v.i0 h.wd
  refine ⟨h1, fun u hu hr => ?_⟩
  rcases Int.lt_or_le (rk m.i u) (rk m.i w) with h3 | h3
  · exact h.no u hu h3
  · have := rk_inj v.i0 hu h.wd (by omega)
    subst this; exact hw
theorem SI.hit (v : Val m) (hs : s < m.r.length) (ht : t < m.r.length) {w : List Int} (h : SI m s t w) (hw : run m s w ≠ run m t w) : sl m s t ≠ 0 ∧ w = sepw m s t := by
  obtain ⟨h1, h2⟩ := sw_le v hs ht h.wd hw
  refine ⟨h1, rk_inj v.i0 h.wd (sw_wd v _ s t hs ht rfl) ?_⟩
  rcases Int.lt_or_le (rk m.i (sw m (sl m s t) s t)) (rk m.i w) with h3 | h3
  · exact absurd (h.no _ (sw_wd v _ s t hs ht rfl) h3) (sw_sep v hs ht h1)
  · unfold sepw; omega
theorem SI.fin (v : Val m) (hs : s < m.r.length) (ht : t < m.r.length) {w : List Int} (h : SI m s t w) (hl : m.r.length ≤ w.length) : sl m s t = 0 := by
  apply Classical.byContradiction
  intro h1
  refine sw_sep v hs ht h1 (h.no _ (sw_wd v _ s t hs ht rfl) (M.rk_short v.i0 ?_ (sw_wd v _ s t hs ht rfl) h.wd))
  rw [sw_len]
  have := sl_lt v hs ht
  omega
/-- How far it is to the words of k symbols. -/
def far2 (m : Ma) (k : Nat) (w : List Int) : Nat := (rk m.i (List.replicate k 0) - rk m.i w).toNat
theorem far2_lt (v : Val m) {k : Nat} {w : List Int} (h : Wd m w) (hl : w.length < k) : far2 m k (M.next m.i w) < far2 m k w := by
  have h1 := M.rk_short v.i0 (x := w) (y := List.replicate k 0) (by simpa using hl) h (zeros_wd v.i0 _)
  have h2 := (next_wd v.i0 h).2
  unfold far2
  omega

/-! ### The table -/
/-- What is known when the words of L symbols are being searched, those of the pairs D done. -/
structure Tb (m : Ma) (L : Nat) (D : Nat → Nat → Prop) (f g : Nat → Nat → Nat) : Prop where
  yes : ∀ a b, a < m.r.length → b < m.r.length → sl m a b ≠ 0 → (sl m a b < L ∨ (sl m a b = L ∧ D a b)) → f a b = sl m a b ∧ g a b = sm m a b
  no : ∀ a b, a < m.r.length → b < m.r.length → ¬ (sl m a b ≠ 0 ∧ (sl m a b < L ∨ (sl m a b = L ∧ D a b))) → f a b = 0
/-- A pair more. -/
def plus (D : Nat → Nat → Prop) (s t : Nat) (a b : Nat) : Prop := D a b ∨ (a = s ∧ b = t) ∨ (a = t ∧ b = s)
/-- A table with another entry for a pair. -/
def upd (f : Nat → Nat → Nat) (s t x : Nat) (a b : Nat) : Nat := if (a = s ∧ b = t) ∨ (a = t ∧ b = s) then x else f a b
variable {L : Nat} {D : Nat → Nat → Prop} {f g : Nat → Nat → Nat}
theorem Tb.start (m : Ma) : Tb m 1 (fun _ _ => False) (fun _ _ => 0) (fun _ _ => 0) :=
  ⟨fun a b _ _ h1 h2 => (h2.elim (fun h3 => absurd h3 (by omega)) fun h3 => h3.2.elim), fun _ _ _ _ _ => rfl⟩
theorem Tb.rest (h : Tb m (L + 1) D f g) (v : Val m) (hs : s < m.r.length) (ht : t < m.r.length) {i : Nat} (hi : (i : Int) < m.i) :
    (rsB f (nx m s i) (nx m t i) && (rsN f (nx m s i) (nx m t i) == L)) = hit m s t L i := by
  unfold hit
  by_cases ho : (nx m s i).2 = (nx m t i).2
  · rcases both v hs ht hi ho with ⟨h1, h2⟩ | ⟨a, b, h1, h2, h3, h4⟩
    · unfold rsB rsN; simp [ho, h1]
    · unfold rsB rsN
      rw [h1, h2]
      have hn : (a : Int) ≠ -1 := by omega
      simp only [ho, hn, ne_eq, not_true_eq_false, decide_false, Bool.false_or, not_false_eq_true, decide_true, Bool.true_and, if_false, Int.toNat_natCast]
      rw [Bool.eq_iff_iff, Bool.and_eq_true, Bool.and_eq_true, decide_eq_true_eq, decide_eq_true_eq, beq_iff_eq, beq_iff_eq]
      by_cases hc : sl m a b ≠ 0 ∧ (sl m a b < L + 1 ∨ (sl m a b = L + 1 ∧ D a b))
      · rw [(h.yes a b h3 h4 hc.1 hc.2).1]
      · rw [h.no a b h3 h4 hc]
        constructor
        · rintro ⟨h5, _⟩; exact absurd rfl h5
        · rintro ⟨h5, h6⟩; exact absurd ⟨h5, Or.inl (by omega)⟩ hc
  · unfold rsB rsN
    simp [ho]
theorem Tb.bound (h : Tb m L D f g) (v : Val m) (hs : s < m.r.length) (ht : t < m.r.length) : f s t ≤ 64 := by
  have h1 := sl_lt v hs ht
  have h2 := v.r1
  by_cases hc : sl m s t ≠ 0 ∧ (sl m s t < L ∨ (sl m s t = L ∧ D s t))
  · rw [(h.yes s t hs ht hc.1 hc.2).1]; omega
  · rw [h.no s t hs ht hc]; omega
theorem Tb.same_ {D' : Nat → Nat → Prop} (h : Tb m L D f g) (hd : ∀ a b, a < m.r.length → b < m.r.length → sl m a b = L → sl m a b ≠ 0 → (D' a b ↔ D a b)) : Tb m L D' f g :=
  ⟨fun a b ha hb h1 h2 => h.yes a b ha hb h1 (h2.imp id fun ⟨x, y⟩ => ⟨x, (hd a b ha hb x h1).1 y⟩),
   fun a b ha hb h1 => h.no a b ha hb fun ⟨h2, h3⟩ => h1 ⟨h2, h3.imp id fun ⟨x, y⟩ => ⟨x, (hd a b ha hb x h2).2 y⟩⟩⟩
/-- The pair is known already. -/
theorem Tb.skip (h : Tb m L D f g) (hD : ∀ a b, D a b → D b a) (hs : s < m.r.length) (ht : t < m.r.length) (hf : f s t ≠ 0) : Tb m L (plus D s t) f g := by
  have hc : sl m s t ≠ 0 ∧ (sl m s t < L ∨ (sl m s t = L ∧ D s t)) := Classical.byContradiction fun hc => hf (h.no s t hs ht hc)
  refine h.same_ fun a b ha hb h1 h2 => ⟨fun h3 => ?_, fun h3 => Or.inl h3⟩
  rcases h3 with h3 | ⟨rfl, rfl⟩ | ⟨rfl, rfl⟩
  · exact h3
  · rcases hc.2 with h4 | h4
    · omega
    · exact h4.2
  · rw [sl_comm] at h1
    rcases hc.2 with h4 | h4
    · omega
    · exact hD _ _ h4.2
/-- No input begins a word for the pair. -/
theorem Tb.none (h : Tb m (L + 1) D f g) (v : Val m) (hs : s < m.r.length) (ht : t < m.r.length) (hn : ∀ i : Nat, (i : Int) < m.i → hit m s t L i = false) : Tb m (L + 1) (plus D s t) f g ∧ sl m s t ≠ L + 1 := by
  have hne : sl m s t ≠ L + 1 := fun e => by
    obtain ⟨i, h1, h2⟩ := hit_ex v hs ht e
    rw [hn i h1] at h2; cases h2
  refine ⟨h.same_ fun a b ha hb h1 h2 => ⟨fun h3 => ?_, fun h3 => Or.inl h3⟩, hne⟩
  rcases h3 with h3 | ⟨rfl, rfl⟩ | ⟨rfl, rfl⟩
  · exact h3
  · exact absurd h1 hne
  · rw [sl_comm] at h1; exact absurd h1 hne
/-- The first input that begins a word for the pair. -/
theorem Tb.put (h : Tb m (L + 1) D f g) (v : Val m) (hs : s < m.r.length) (ht : t < m.r.length) (hf : f s t = 0) {i : Nat} (hi : (i : Int) < m.i) (hit_ : hit m s t L i = true) (hn : ∀ j : Nat, j < i → hit m s t L j = false) :
    Tb m (L + 1) (plus D s t) (upd f s t (L + 1)) (upd g s t i) ∧ sl m s t = L + 1 := by
  obtain ⟨h1, h2⟩ := hit_ge v hs ht hi hit_
  have hsl : sl m s t = L + 1 := by
    rcases Nat.lt_or_ge (sl m s t) (L + 1) with h3 | h3
    · have := (h.yes s t hs ht (by omega) (Or.inl h3)).1; omega
    · omega
  have hsm : sm m s t = i := sm_of hi (by rw [hsl, Nat.add_sub_cancel]; exact hit_) fun j hj => by rw [hsl, Nat.add_sub_cancel]; exact hn j hj
  have hsm2 : sm m t s = i := by rw [← sm_comm v hs ht (by omega)]; exact hsm
  refine ⟨⟨fun a b ha hb h3 h4 => ?_, fun a b ha hb h3 => ?_⟩, hsl⟩
  · unfold upd
    by_cases hp : (a = s ∧ b = t) ∨ (a = t ∧ b = s)
    · rw [if_pos hp, if_pos hp]
      rcases hp with ⟨rfl, rfl⟩ | ⟨rfl, rfl⟩
      · exact ⟨hsl.symm, hsm.symm⟩
      · rw [sl_comm]; exact ⟨hsl.symm, hsm2.symm⟩
    · rw [if_neg hp, if_neg hp]
      refine h.yes a b ha hb h3 (h4.imp id fun ⟨x, y⟩ => ⟨x, ?_⟩)
      rcases y with y | y
      · exact y
      · exact absurd y hp
  · unfold upd
    by_cases hp : (a = s ∧ b = t) ∨ (a = t ∧ b = s)
    · exfalso
      apply h3
      rcases hp with ⟨rfl, rfl⟩ | ⟨rfl, rfl⟩
      · exact ⟨by omega, Or.inr ⟨hsl, Or.inr (Or.inl ⟨rfl, rfl⟩)⟩⟩
      · rw [sl_comm]; exact ⟨by omega, Or.inr ⟨hsl, Or.inr (Or.inr ⟨rfl, rfl⟩)⟩⟩
    · rw [if_neg hp]
      refine h.no a b ha hb fun ⟨h4, h5⟩ => h3 ⟨h4, h5.imp id fun ⟨x, y⟩ => ⟨x, Or.inl y⟩⟩
theorem upd_two (f : Nat → Nat → Nat) (s t x : Nat) : (fun a b => if a = t ∧ b = s then x else if a = s ∧ b = t then x else f a b) = upd f s t x := by
  funext a b
  unfold upd
  by_cases h1 : a = t ∧ b = s
  · rw [if_pos h1, if_pos (Or.inr h1)]
  · rw [if_neg h1]
    by_cases h2 : a = s ∧ b = t
    · rw [if_pos h2, if_pos (Or.inl h2)]
    · rw [if_neg h2, if_neg (fun h => h.elim h2 h1)]
/-- All pairs are done: the next length. -/
theorem Tb.turn (h : Tb m L D f g) (hD : ∀ a b, a < m.r.length → b < m.r.length → a ≠ b → D a b) : Tb m (L + 1) (fun _ _ => False) f g := by
  have key : ∀ a b, a < m.r.length → b < m.r.length → sl m a b ≠ 0 → sl m a b < L + 1 → sl m a b < L ∨ (sl m a b = L ∧ D a b) := fun a b ha hb h1 h2 => by
    rcases Nat.lt_or_ge (sl m a b) L with h3 | h3
    · exact Or.inl h3
    · refine Or.inr ⟨by omega, hD a b ha hb fun e => ?_⟩
      subst e
      exact h1 (sl_same _ _)
  refine ⟨fun a b ha hb h1 h2 => h.yes a b ha hb h1 ?_, fun a b ha hb h1 => h.no a b ha hb fun ⟨h2, h3⟩ => h1 ⟨h2, Or.inl ?_⟩⟩
  · rcases h2 with h2 | h2
    · exact key a b ha hb h1 h2
    · exact h2.2.elim
  · rcases h3 with h3 | h3 <;> omega
/-- One of each lesser length. -/
theorem sl_ladder (v : Val m) : ∀ (K : Nat) {a b : Nat}, a < m.r.length → b < m.r.length → sl m a b = L + 1 + K → ∃ a' b', a' < m.r.length ∧ b' < m.r.length ∧ sl m a' b' = L + 1
  | 0, a, b, ha, hb, h => ⟨a, b, ha, hb, h⟩
  | K + 1, a, b, ha, hb, h => by
    rcases sw_next v ha hb (L := L + 1 + K) (by omega) with ⟨h1, _⟩ | ⟨_, _, a', b', _, _, h5, h6, h7⟩
    · omega
    · exact sl_ladder v K h5 h6 h7
/-- No word has the length: all is known. -/
def TbF (m : Ma) (f g : Nat → Nat → Nat) : Prop := ∀ a b, a < m.r.length → b < m.r.length → f a b = sl m a b ∧ (sl m a b ≠ 0 → g a b = sm m a b)
theorem Tb.fin (h : Tb m (L + 1) D f g) (v : Val m) (hn : ∀ a b, a < m.r.length → b < m.r.length → sl m a b ≠ L + 1) : TbF m f g := by
  have hall : ∀ a b, a < m.r.length → b < m.r.length → sl m a b < L + 1 := fun a b ha hb => by
    rcases Nat.lt_or_ge (sl m a b) (L + 1) with h1 | h1
    · exact h1
    · obtain ⟨a', b', h2, h3, h4⟩ := sl_ladder (L := L) v (sl m a b - (L + 1)) ha hb (by omega)
      exact absurd h4 (hn a' b' h2 h3)
  intro a b ha hb
  by_cases hz : sl m a b = 0
  · refine ⟨?_, fun h1 => absurd hz h1⟩
    rw [h.no a b ha hb fun ⟨h1, _⟩ => h1 hz, hz]
  · obtain ⟨h1, h2⟩ := h.yes a b ha hb hz (Or.inl (hall a b ha hb))
    exact ⟨h1, fun _ => h2⟩
end
end Go.Proofs.Ytgafpmgdpigliaa.Mc
