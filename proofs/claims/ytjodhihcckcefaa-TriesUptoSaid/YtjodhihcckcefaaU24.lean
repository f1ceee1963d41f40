/-
  The words of a trie: mathematics, and the memory of the loop over its nodes. No statement is proved here.
-/
import Derived.Test.YtjodhihcckcefaaU23
namespace Go.Proofs.Ytjodhihcckcefaa
open Go.RowKit Go.Maps

/-! ### Nodes of a tree -/
theorem chs_mem : ∀ {zs : List Int} {m r : Int}, chs zs m = some r → ∀ z ∈ zs, z = -1 ∨ (m ≤ z ∧ z < r)
  | [], _, _, _, z, hz => absurd hz (by simp)
  | y :: zs, m, r, h, z, hz => by
    by_cases e : y = -1
    · subst e
      rw [chs_none] at h
      rcases List.mem_cons.1 hz with h1 | h1
      · exact Or.inl h1
      · exact chs_mem h z h1
    · by_cases e2 : y = m
      · subst e2
        rw [chs_met e] at h
        rcases List.mem_cons.1 hz with h1 | h1
        · subst h1
          have := chs_le h
          exact Or.inr ⟨Int.le_refl _, by omega⟩
        · rcases chs_mem h z h1 with h2 | h2
          · exact Or.inl h2
          · exact Or.inr ⟨by omega, h2.2⟩
      · rw [chs_bad e e2] at h; cases h
theorem fmr_node {I : Int} : ∀ {ns : List Nd} {k0 : Nat} {m0 r : Int}, fmr I k0 ns m0 = some r → ∀ (i : Nat) (x : Nd), ns[i]? = some x → (nxB x.1 = false → x.2 = true) ∧ (x.1.length : Int) = I ∧ ∀ z ∈ x.1, z = -1 ∨ ((k0 + i : Nat) : Int) < z ∧ z < r
  | [], _, _, _, _, i, x, hx => by simp at hx
  | y :: ns, k0, m0, r, h, i, x, hx => by
    have hnb : ¬ (m0 ≤ (k0 : Int) ∨ (y.1.length : Int) ≠ I ∨ (nxB y.1 = false ∧ y.2 = false)) := fun hb => by rw [fmr_bad hb] at h; cases h
    rw [fmr_ok hnb] at h
    unfold chk2 at h
    split at h
    · cases h
    · rename_i m' hm'
      cases i with
      | zero =>
        simp at hx
        subst hx
        refine ⟨fun h1 => ?_, ?_, fun z hz => ?_⟩
        · cases h2 : y.2 with
          | true => rfl
          | false => exact absurd (Or.inr (Or.inr ⟨h1, h2⟩)) hnb
        · rcases Classical.em ((y.1.length : Int) = I) with h1 | h1
          · exact h1
          · exact absurd (Or.inr (Or.inl h1)) hnb
        · rcases chs_mem hm' z hz with h1 | h1
          · exact Or.inl h1
          · have h2 := fmr_le h
            have h3 : ¬ m0 ≤ (k0 : Int) := fun h4 => hnb (Or.inl h4)
            exact Or.inr ⟨by omega, by omega⟩
      | succ i =>
        have := fmr_node h i x (by simpa using hx)
        refine ⟨this.1, this.2.1, fun z hz => ?_⟩
        rcases this.2.2 z hz with h1 | h1
        · exact Or.inl h1
        · exact Or.inr ⟨by omega, h1.2⟩
/-- The words at which a node is an end, of the first k nodes. -/
def enk (Z : List (List Int × Nd)) (k : Nat) : List (List Int) := (Z.take k).filterMap fun y => if y.2.2 then some y.1 else none
def enz (K : List (List Int)) (ns : List Nd) : List (List Int) := (K.zip ns).filterMap fun y => if y.2.2 then some y.1 else none
theorem enk_all (K : List (List Int)) (ns : List Nd) : enk (K.zip ns) (K.zip ns).length = enz K ns := by unfold enk enz; rw [List.take_length]
theorem enk_zero (Z : List (List Int × Nd)) : enk Z 0 = [] := by unfold enk; rw [List.take_zero]; rfl
theorem enk_yes {Z : List (List Int × Nd)} {k : Nat} {y : List Int × Nd} (h : Z[k]? = some y) (he : y.2.2 = true) : enk Z (k + 1) = enk Z k ++ [y.1] := by
  unfold enk
  rw [List.take_add_one, h, List.filterMap_append]
  simp [he]
theorem enk_no {Z : List (List Int × Nd)} {k : Nat} {y : List Int × Nd} (h : Z[k]? = some y) (he : y.2.2 = false) : enk Z (k + 1) = enk Z k := by
  unfold enk
  rw [List.take_add_one, h, List.filterMap_append]
  simp [he]
theorem enk_le (Z : List (List Int × Nd)) (k : Nat) : (enk Z k).length ≤ (Z.filterMap fun y => if y.2.2 then some y.1 else none).length := by
  unfold enk
  exact ((List.take_sublist k Z).filterMap _).length_le
theorem enz_mem {K : List (List Int)} {ns : List Nd} {k : Nat} {y : List Int} {x : Nd} (h1 : K[k]? = some y) (h2 : ns[k]? = some x) (he : x.2 = true) : y ∈ enz K ns := by
  unfold enz
  refine List.mem_filterMap.2 ⟨(y, x), List.mem_of_getElem? (i := k) ?_, by simp [he]⟩
  rw [List.getElem?_zip_eq_some]
  exact ⟨h1, h2⟩
theorem nxB_some {zs : List Int} (h : nxB zs = true) : ∃ (i : Nat) (z : Int), zs[i]? = some z ∧ z ≠ -1 := by
  unfold nxB at h
  obtain ⟨z, hz, h1⟩ := List.any_eq_true.1 h
  obtain ⟨i, hi⟩ := List.mem_iff_getElem?.1 hz
  exact ⟨i, z, hi, by simpa using h1⟩
/-- Behind each node there is an end that is no shorter. -/
theorem end_behind {I : Int} {ns : List Nd} {K : List (List Int)} {N : Nat} (hN : ns.length = N) (hf : fmr I 0 ns 1 = some (N : Int)) (hK : Keyz ns K) : ∀ (d k : Nat) (y : List Int), N - k ≤ d → K[k]? = some y → ∃ e ∈ enz K ns, y.length ≤ e.length
  | 0, k, y, hd, hy => by
    have := (List.getElem?_eq_some_iff.1 hy).1
    rw [hK.len] at this
    omega
  | d + 1, k, y, hd, hy => by
    have hkl := (List.getElem?_eq_some_iff.1 hy).1
    rw [hK.len] at hkl
    obtain ⟨x, hx⟩ : ∃ x, ns[k]? = some x := ⟨_, List.getElem?_eq_getElem hkl⟩
    obtain ⟨h1, _, h3⟩ := fmr_node hf k x hx
    cases hnb : nxB x.1 with
    | false => exact ⟨y, enz_mem hy hx (h1 hnb), Nat.le_refl _⟩
    | true =>
      obtain ⟨i, z, hi, hz⟩ := nxB_some hnb
      rcases h3 z (List.mem_of_getElem? hi) with h4 | h4
      · exact absurd h4 hz
      · obtain ⟨j, rfl⟩ := Int.eq_ofNat_of_zero_le (a := z) (by omega)
        obtain ⟨y', hy', hkid⟩ := hK.kid k i j x hx hi
        rw [hy] at hy'
        injection hy' with hy'
        subst hy'
        obtain ⟨e, he, hle⟩ := end_behind hN hf hK d j _ (by omega) hkid
        exact ⟨e, he, by simp at hle; omega⟩
theorem ch_long {rows : List (List Int)} {n : Int} (h : M.chE rows n = 0) : rows.length ≤ 4096 ∧ ∀ x ∈ rows, x.length ≤ 256 := by
  have hv := M.chE_zero.1 h
  exact ⟨hv.len, fun x hx => (M.check_zero_u (hv.ck x hx)).2.2.1⟩
open Classical in
/-- The error of Words. -/
noncomputable def wzE (I : Int) (ns : List Nd) (K : List (List Int)) : Int := if 1 ≤ I ∧ I ≤ 16 ∧ fmB I ns = true ∧ M.chE (enz K ns) I = 0 then 0 else 4
theorem wzE_bad {I : Int} {ns : List Nd} {K : List (List Int)} (h : ¬ (1 ≤ I ∧ I ≤ 16 ∧ fmB I ns = true ∧ M.chE (enz K ns) I = 0)) : wzE I ns K = 4 := by unfold wzE; rw [if_neg h]
theorem wzE_ok {I : Int} {ns : List Nd} {K : List (List Int)} (h : 1 ≤ I ∧ I ≤ 16 ∧ fmB I ns = true ∧ M.chE (enz K ns) I = 0) : wzE I ns K = 0 := by unfold wzE; rw [if_pos h]
theorem fmB_fmr {I : Int} {ns : List Nd} {N : Nat} (hN : ns.length = N) (h : fmB I ns = true) : N ≤ 65537 ∧ (N = 0 ∨ fmr I 0 ns 1 = some (N : Int)) := by
  unfold fmB at h
  rw [hN] at h
  split at h
  · omega
  · split at h
    · cases h
    · exact ⟨by omega, Or.inr (by simpa using h)⟩
/-! ### A list of words, appended to inside a loop -/
/-- A list of words that a call builds, all of it from base on. -/
def OwZ (w : World) (base : Nat) (v : Value) (l : List (List Int)) : Prop := ∃ xs : List Value, w.ownsRow base 23 1 v l.length xs ∧ ∀ (k : Nat) (x : List Int), l[k]? = some x → ∃ u, xs[k]? = some u ∧ OwX w base u x
section
variable {w w' : World} {base : Nat} {v : Value} {l : List (List Int)}
theorem OwZ.nil_ (w : World) (base : Nat) : OwZ w base (.slice none 0 0) [] := ⟨[], World.ownsRow_nil _ _ _ _, fun k x h => by simp at h⟩
theorem OwZ.form (h : OwZ w base v l) : ∃ A c, v = .slice A l.length c ∧ l.length ≤ c := by
  obtain ⟨xs, h1, _⟩ := h
  rcases h1.2 with ⟨rfl, h0⟩ | ⟨g, cap, cur, rfl, h2, h3, h4, _⟩
  · exact ⟨none, 0, by rw [h0], by omega⟩
  · exact ⟨_, cap, rfl, h4⟩
theorem OwZ.row (h : OwZ w base v l) : ∀ r, v.ownBlock = some r → base ≤ r ∧ ∃ cs, w.heap[r]? = some (.cells cs 23 (0, 0)) := fun r hr => by
  obtain ⟨xs, h1, _⟩ := h
  rcases h1.2 with ⟨rfl, _⟩ | ⟨g, cap, cur, rfl, h2, h3, _⟩
  · cases hr
  · simp [Value.ownBlock] at hr
    subst hr
    exact ⟨h2, cur, h3⟩
/-- It stays where the blocks of ints and of words from base on stay. -/
theorem OwZ.keep (h : OwZ w base v l) (k : ∀ b cs t fr, base ≤ b → w.heap[b]? = some (.cells cs t fr) → t = 3 ∨ t = 23 → w'.heap[b]? = some (.cells cs t fr)) : OwZ w' base v l := by
  obtain ⟨xs, h1, h2⟩ := h
  refine ⟨xs, ⟨h1.1, ?_⟩, fun j x hj => ?_⟩
  · rcases h1.2 with h0 | ⟨g, cap, cur, e1, hb, hg, rest⟩
    · exact .inl h0
    · exact .inr ⟨g, cap, cur, e1, hb, k g _ _ _ hb hg (Or.inr rfl), rest⟩
  · obtain ⟨u, h3, g, h4, h5, h6⟩ := h2 j x hj
    exact ⟨u, h3, g, h4, h5, k g _ _ _ h5 h6 (Or.inl rfl)⟩
theorem OwZ.ch {M : Nat} (h : OwZ w base v l) (k : ChT M w w') : OwZ w' base v l := h.keep fun b cs t fr _ hb ht => k.same b cs t fr hb (by rcases ht with rfl | rfl <;> decide)
theorem OwZ.below (h : OwZ w base v l) (k : Below w.heap.size w w') : OwZ w' base v l := h.keep fun b _ _ _ _ hb _ => (k.block b (hlt hb)).trans hb
theorem OwZ.far (h : OwZ w base v l) {g o : Nat} (u : Value) (hg : g < base) : OwZ (w.setCell ⟨g, o, none⟩ u) base v l := h.keep fun b _ _ _ hb hc _ => (Below.heap_setCell w ⟨g, o, none⟩ u b (by show b ≠ g; omega)).trans hc
theorem OwZ.rdx {A : Option Addr} {n c : Nat} (h : OwZ w base (.slice A n c) l) : RdX w A l := fun hp => by
  obtain ⟨xs, h1, h2⟩ := h
  rcases h1.2 with ⟨_, h0⟩ | ⟨g, cap, cur, e, h3, h4, _⟩
  · omega
  · injection e with e _ _
    subst e
    refine ⟨g, 0, rfl, heap_ltT h4, fun k hk => ?_⟩
    obtain ⟨u, h5, g', h6, h7, h8⟩ := h2 k _ (M.row_at hk)
    have := h1.cells (g := g) rfl k _ h5
    rw [Addr.add_lit, h6] at this
    exact ⟨_, this, h8.rd⟩
/-- The append's run. -/
theorem OwZ.app {g n : Nat} {x : List Int} (ty : TypeId) (hown : OwZ w base v l) (hlen : l.length ≤ 1000000) (hx : Blk w g x) (hg : base ≤ g) (hn : x.length = n) (hB : base ≤ w.heap.size) :
    ∃ v1 w1, (Builtin.append_ #[22, 22] ty #[v, .slice (some ⟨w.heap.size, 0, none⟩) 1 1]).run Try.prog (w.alloc (.cells #[.slice (some ⟨g, 0, none⟩) n n] 23)) = .ok v1 w1 ∧ OwZ w1 base v1 (l ++ [x]) ∧ (w.alloc (.cells #[.slice (some ⟨g, 0, none⟩) n n] 23)).grownBy w1 v.ownBlock := by
  subst hn
  obtain ⟨i0, hi0, hI0, hI1, hI2⟩ := info_parts words_info
  have hrow := hown.row
  have hbA := (Below.refl w.heap.size w).alloc (Nat.le_refl _) (.cells #[.slice (some ⟨g, 0, none⟩) x.length x.length] 23)
  have hownA := hown.below hbA
  have hxA := hx.below hbA hx.lt
  obtain ⟨xs, h1, h2⟩ := hownA
  have hxl : xs.length = l.length := by have := h1.1; omega
  obtain ⟨v1, w1, hrun, h3, hgr, _⟩ := run_append_own (P := Try.prog) (w.alloc (.cells #[.slice (some ⟨g, 0, none⟩) x.length x.length] 23)) base 22 ty 23 i0 (.slice none 0 0) 1 24 Try.underlying22 hi0 hI0 hI1 hI2 rfl (by decide) v l.length xs h1 ⟨w.heap.size, 0, none⟩ 1 1 [.slice (some ⟨g, 0, none⟩) x.length x.length] rfl (by
    intro j u hj
    rw [Addr.add_lit, World.cell?_alloc_at _ _ _ _ rfl]
    match j, hj with
    | 0, hj => simpa using hj) (by
    intro u hu
    simp at hu
    rw [hu]; rfl) (by unfold maxLen; omega) (by omega) (by simp; omega)
  have key : ∀ (b : Nat) cs fr, (w.alloc (.cells #[.slice (some ⟨g, 0, none⟩) x.length x.length] 23)).heap[b]? = some (.cells cs 3 fr) → w1.heap[b]? = some (.cells cs 3 fr) := fun b cs fr hb => by
    refine (hgr.block b (heap_ltT hb) fun e => ?_).trans hb
    obtain ⟨h4, cs', h5⟩ := hrow b e.symm
    rw [(Below.heap_alloc _ _ b (heap_ltT h5)).trans h5] at hb
    injection hb with hb
    injection hb with _ hb _
    exact absurd hb (by decide)
  refine ⟨v1, w1, hrun, ⟨_, by rw [List.length_append]; exact h3, fun k y hk => ?_⟩, hgr⟩
  rcases Nat.lt_trichotomy k l.length with hj | hj | hj
  · rw [List.getElem?_append_left hj] at hk
    obtain ⟨u, h5, g', h6, h7, h8⟩ := h2 k y hk
    exact ⟨u, by rw [List.getElem?_append_left (by omega)]; exact h5, g', h6, h7, key _ _ _ h8⟩
  · subst hj
    rw [List.getElem?_append_right (Nat.le_refl _)] at hk
    simp at hk
    subst hk
    refine ⟨.slice (some ⟨g, 0, none⟩) x.length x.length, ?_, g, rfl, hg, key _ _ _ hxA⟩
    rw [List.getElem?_append_right (by omega), hxl]
    simp
  · rw [List.getElem?_eq_none (by simp; omega)] at hk
    cases hk
end
/-- A box of one cell. -/
def Bx1 (w : World) (g : Nat) (T : TypeId) (v : Value) : Prop := w.heap[g]? = some (.cells #[v] T (0, 0))
section
variable {w w' : World} {g : Nat} {T : TypeId} {v : Value}
theorem Bx1.new (w : World) (T : TypeId) (v : Value) : Bx1 (w.alloc (.cells #[v] T)) w.heap.size T v := heap_alloc_new w _
theorem Bx1.lt (h : Bx1 w g T v) : g < w.heap.size := heap_ltT h
theorem Bx1.below (h : Bx1 w g T v) (hb : Below w.heap.size w w') : Bx1 w' g T v := (hb.block g h.lt).trans h
theorem Bx1.ch {M : Nat} (h : Bx1 w g T v) (k : ChT M w w') (hT : T ≠ 9) : Bx1 w' g T v := k.same g _ _ _ h hT
theorem Bx1.cells (h : Bx1 w g T v) : w.cell? ⟨g, 0, none⟩ = some v ∧ w.frozen? ⟨g, 0, none⟩ = false := by
  refine ⟨?_, by unfold Bx1 at h; simp [World.frozen?, h]⟩
  rw [cell_of_row w g _ _ _ _ h]; rfl
theorem Bx1.set_ (h : Bx1 w g T v) (u : Value) : Bx1 (w.setCell ⟨g, 0, none⟩ u) g T u := heap_setCell_same w g 0 _ _ u h
theorem Bx1.far (h : Bx1 w g T v) {b o : Nat} (hne : g ≠ b) (u : Value) : Bx1 (w.setCell ⟨b, o, none⟩ u) g T v := (Below.heap_setCell _ _ _ _ hne).trans h
end
theorem Bx2.ch {M : Nat} {w w' : World} {g : Nat} {T : TypeId} {u v : Value} (h : Bx2 w g T u v) (k : ChT M w w') (hT : T ≠ 9) : Bx2 w' g T u v := k.same g _ _ _ h hT
end Go.Proofs.Ytjodhihcckcefaa
