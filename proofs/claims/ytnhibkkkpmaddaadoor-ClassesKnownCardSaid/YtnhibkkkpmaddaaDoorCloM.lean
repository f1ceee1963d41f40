/-
  The plain mathematics of closures, meets and joins: lists of ints, no program. No statement is proved here.
-/
import Derived.Test.YtnhibkkkpmaddaaDoorPatM
namespace Go.Proofs.YtnhibkkkpmaddaaDoor.M

def Rng (n : Nat) (ps : List (Nat × Nat)) : Prop := ∀ x ∈ ps, x.1 < n ∧ x.2 < n
/-- The numbers below n. -/
def iota (n : Nat) : List Int := (List.range n).map Int.ofNat
theorem iota_len (n : Nat) : (iota n).length = n := by simp [iota]
theorem iota_gz {n i : Nat} (h : i < n) : gz (iota n) i = i := by
  simp [iota, gz, h]
theorem iota_snoc (n : Nat) : iota (n + 1) = iota n ++ [(n : Int)] := by simp [iota, List.range_succ]
/-- Two numbers become one: the reference's way. -/
def ins (l : List Int) (x y : Nat) : List Int := l.map fun z => if z = gz l y then gz l x else z
def closeR (n : Nat) (ps : List (Nat × Nat)) : List Int := ps.foldl (fun l q => ins l q.1 q.2) (iota n)
theorem closeR_snoc (n : Nat) (ps : List (Nat × Nat)) (q : Nat × Nat) : closeR n (ps ++ [q]) = ins (closeR n ps) q.1 q.2 := by simp [closeR]
theorem closeR_nil (n : Nat) : closeR n [] = iota n := rfl
theorem ins_len (l : List Int) (x y : Nat) : (ins l x y).length = l.length := by simp [ins]
theorem prec {α : Type} {P : List α → Prop} (h0 : P []) (h1 : ∀ l z, P l → P (l ++ [z])) (l : List α) : P l := by
  have : ∀ (n : Nat) (l : List α), l.length = n → P l := by
    intro n
    induction n with
    | zero => intro l hl; rw [List.eq_nil_of_length_eq_zero hl]; exact h0
    | succ n ih =>
      intro l hl
      have hne : l ≠ [] := by intro e; subst e; simp at hl
      rw [← List.dropLast_concat_getLast hne]
      exact h1 _ _ (ih _ (by simp [hl]))
  exact this _ l rfl
theorem closeR_len (n : Nat) (ps : List (Nat × Nat)) : (closeR n ps).length = n := by
  induction ps using prec with
  | h0 => exact iota_len n
  | h1 l q ih => rw [closeR_snoc, ins_len, ih]
theorem closeR_clo {n : Nat} {ps : List (Nat × Nat)} (h : Rng n ps) : Clo n ps (gz (closeR n ps)) := by
  induction ps using prec with
  | h0 =>
    refine Clo.nil_ fun i j hi hj e => ?_
    rw [closeR_nil, iota_gz hi, iota_gz hj] at e
    omega
  | h1 l q ih =>
    have hl : Rng n l := fun x hx => h x (List.mem_append_left _ hx)
    have hq := h q (by simp)
    refine (ih hl).step (x := q.1) (y := q.2) (u := gz (closeR n l) q.2) (v := gz (closeR n l) q.1) hq.1 hq.2 hl (.inr ⟨rfl, rfl⟩) fun i hi => ?_
    rw [closeR_snoc]
    exact gz_map (by rw [closeR_len]; exact hi)
/-- The finest partition in which pairs are together. -/
def close (n : Nat) (ps : List (Nat × Nat)) : List Int := ofL (closeR n ps)
theorem close_len (n : Nat) (ps : List (Nat × Nat)) : (close n ps).length = n := by rw [close, ofL_len, closeR_len]
theorem close_vd (n : Nat) (ps : List (Nat × Nat)) : Vd (close n ps) := Vd.of_ _
theorem close_of {n : Nat} {ps : List (Nat × Nat)} {l : List Int} (h : Rng n ps) (hl : l.length = n) (hc : Clo n ps (gz l)) : ofL l = close n ps :=
  ofL_congr (by rw [hl, closeR_len]) (by rw [hl]; exact hc.both (closeR_clo h)) (by rw [hl]; exact (closeR_clo h).both hc)
theorem close_clo {n : Nat} {ps : List (Nat × Nat)} (h : Rng n ps) : Clo n ps (gz (close n ps)) :=
  (closeR_clo h).congr h (by have := le_ofL (closeR n ps); rwa [closeR_len] at this) (by have := ofL_le (closeR n ps); rwa [closeR_len] at this)

/-- Where a number leads to, going down. -/
def root (d : List Int) (i : Nat) : Nat := if _h : (gz d i).toNat < i then root d (gz d i).toNat else i
termination_by i
def Dn (n : Nat) (d : List Int) : Prop := d.length = n ∧ ∀ i, i < n → 0 ≤ gz d i ∧ gz d i ≤ i
theorem root_self {d : List Int} {i : Nat} (h : gz d i = i) : root d i = i := by
  rw [root]; rw [dif_neg (by omega)]
theorem root_down {n : Nat} {d : List Int} {i : Nat} (hd : Dn n d) (hi : i < n) (h : gz d i ≠ i) : (gz d i).toNat < i ∧ root d i = root d (gz d i).toNat := by
  have := hd.2 i hi
  have h1 : (gz d i).toNat < i := by omega
  refine ⟨h1, ?_⟩
  rw [root, dif_pos h1]
theorem root_le (d : List Int) (i : Nat) : root d i ≤ i := by
  induction i using Nat.strongRecOn with
  | ind i ih =>
    rw [root]
    split
    · rename_i h; have := ih _ h; omega
    · omega
theorem root_fix {n : Nat} {d : List Int} (hd : Dn n d) (i : Nat) (hi : i < n) : gz d (root d i) = root d i := by
  induction i using Nat.strongRecOn with
  | ind i ih =>
    by_cases h : gz d i = i
    · rw [root_self h]; exact h
    · obtain ⟨h1, h2⟩ := root_down hd hi h
      rw [h2]
      exact ih _ h1 (by omega)
theorem gz_set {l : List Int} {k i : Nat} {z : Int} (hk : k < l.length) : gz (l.set k z) i = if i = k then z else gz l i := by
  unfold gz
  rw [List.getElem?_set]
  by_cases h : k = i
  · subst h; simp [hk]
  · have : ¬ i = k := fun e => h e.symm
    simp [h, this]
theorem Dn.set_ {n : Nat} {d : List Int} (hd : Dn n d) {k m : Nat} (hk : k < n) (hm : m ≤ k) : Dn n (d.set k m) := by
  refine ⟨by rw [List.length_set]; exact hd.1, fun i hi => ?_⟩
  rw [gz_set (by rw [hd.1]; exact hk)]
  split
  · subst_vars; omega
  · exact hd.2 i hi
theorem root_set {n : Nat} {d : List Int} (hd : Dn n d) {k m : Nat} (hk : k < n) (hm : m ≤ k) (hf : gz d m = m) (h : root d k = k ∨ m = root d k) (i : Nat) (hi : i < n) :
    root (d.set k m) i = if root d i = root d k then m else root d i := by
  have hd' := hd.set_ hk hm
  have hg : ∀ j, gz (d.set k m) j = if j = k then (m : Int) else gz d j := fun j => gz_set (by rw [hd.1]; exact hk)
  induction i using Nat.strongRecOn with
  | ind i ih =>
    by_cases e : i = k
    · subst e
      rw [if_pos rfl]
      by_cases e2 : m = i
      · subst e2
        exact root_self (by rw [hg, if_pos rfl])
      · have h1 : gz (d.set i m) i = m := by rw [hg, if_pos rfl]
        obtain ⟨_, h2⟩ := root_down hd' hi (by rw [h1]; omega)
        rw [h2, h1, Int.toNat_natCast]
        exact root_self (by rw [hg, if_neg e2]; exact hf)
    · have h1 : gz (d.set k m) i = gz d i := by rw [hg, if_neg e]
      by_cases e2 : gz d i = i
      · rw [root_self (h1.trans e2), root_self e2]
        split
        · rename_i e3
          rcases h with h | h
          · exact absurd (e3.trans h) e
          · rw [e3, h]
        · rfl
      · obtain ⟨h2, h3⟩ := root_down hd hi e2
        obtain ⟨_, h4⟩ := root_down hd' hi (by rw [h1]; exact e2)
        rw [h4, h3, h1]
        exact ih _ h2 (by omega)
/-- The state of Close's first loop: what leads down has the pairs together. -/
structure Uf (n : Nat) (ps : List (Nat × Nat)) (d : List Int) : Prop where
  dn : Dn n d
  clo : Clo n ps fun i => (root d i : Int)
theorem Uf.start (n : Nat) : Uf n [] (iota n) := by
  have h : ∀ i, i < n → root (iota n) i = i := fun i hi => root_self (iota_gz hi)
  refine ⟨⟨iota_len n, fun i hi => by rw [iota_gz hi]; omega⟩, Clo.nil_ fun i j hi hj e => ?_⟩
  rw [h i hi, h j hj] at e
  omega
theorem Uf.step {n : Nat} {ps : List (Nat × Nat)} {d : List Int} {x y : Nat} (h : Uf n ps d) (hr : Rng n ps) (hx : x < n) (hy : y < n) :
    Uf n (ps ++ [(x, y)]) (d.set (max (root d x) (root d y)) (min (root d x) (root d y) : Nat)) := by
  have fx := root_fix h.dn x hx
  have fy := root_fix h.dn y hy
  have lx := root_le d x
  have ly := root_le d y
  have key : ∀ (a b : Nat), (a = root d x ∧ b = root d y) ∨ (a = root d y ∧ b = root d x) → b ≤ a → Uf n (ps ++ [(x, y)]) (d.set a (b : Nat)) := by
    intro a b hab hle
    have ha : a < n := by omega
    have hb : gz d b = b := by rcases hab with ⟨_, rfl⟩ | ⟨_, rfl⟩ <;> assumption
    have haa : root d a = a := root_self (by rcases hab with ⟨rfl, _⟩ | ⟨rfl, _⟩ <;> assumption)
    refine ⟨h.dn.set_ ha hle, h.clo.step (u := (a : Int)) (v := (b : Int)) hx hy hr ?_ fun i hi => ?_⟩
    · rcases hab with ⟨rfl, rfl⟩ | ⟨rfl, rfl⟩
      · exact .inl ⟨rfl, rfl⟩
      · exact .inr ⟨rfl, rfl⟩
    · show ((root (d.set a (b : Nat)) i : Nat) : Int) = if (root d i : Int) = a then (b : Int) else root d i
      rw [root_set h.dn ha hle hb (.inl haa) i hi, haa]
      by_cases e : root d i = a
      · rw [if_pos e, if_pos (by omega)]
      · have : ¬ (root d i : Int) = a := by omega
        rw [if_neg e, if_neg this]
  rcases Nat.le_total (root d x) (root d y) with h1 | h1
  · rw [Nat.max_eq_right h1, Nat.min_eq_left h1]
    exact key _ _ (.inr ⟨rfl, rfl⟩) h1
  · rw [Nat.max_eq_left h1, Nat.min_eq_right h1]
    exact key _ _ (.inl ⟨rfl, rfl⟩) h1
/-- The state of Close's second loop: the first k lead straight to the ends. -/
structure Uz (n : Nat) (d0 d : List Int) (k : Nat) : Prop where
  dn : Dn n d
  same : ∀ i, i < n → root d i = root d0 i
  done : ∀ i, i < k → gz d i = root d0 i
theorem Uz.start {n : Nat} {d : List Int} (h : Dn n d) : Uz n d d 0 := ⟨h, fun _ _ => rfl, fun i hi => absurd hi (Nat.not_lt_zero i)⟩
theorem Uz.step {n : Nat} {d0 d : List Int} {k : Nat} (h : Uz n d0 d k) (hk : k < n) : Uz n d0 (d.set k (root d k : Nat)) (k + 1) := by
  have hle := root_le d k
  refine ⟨h.dn.set_ hk hle, fun i hi => ?_, fun i hi => ?_⟩
  · rw [root_set h.dn hk hle (root_fix h.dn k hk) (.inr rfl) i hi, ← h.same i hi]
    split
    · rename_i e; exact e.symm
    · rfl
  · rw [gz_set (by rw [h.dn.1]; exact hk)]
    split
    · subst_vars
      rw [h.same i hk]
    · exact h.done i (by omega)
theorem Uz.fin {n : Nat} {ps : List (Nat × Nat)} {d0 d : List Int} (h : Uz n d0 d n) (hu : Uf n ps d0) (hr : Rng n ps) : ofL d = close n ps :=
  close_of hr h.dn.1 (hu.clo.congr hr (fun i j hi hj e => by rw [h.done i hi, h.done j hj]; exact e) (fun i j hi hj e => by rw [h.done i hi, h.done j hj] at e; exact e))

/-- What the meet of two lists is. -/
def Mt (n : Nat) (p q r : Nat → Int) : Prop := le n r p ∧ le n r q ∧ ∀ f, le n f p → le n f q → le n f r
theorem mt_of {n : Nat} {p q r : Nat → Int} (h : ∀ i j, i < n → j < n → (r i = r j ↔ p i = p j ∧ q i = q j)) : Mt n p q r :=
  ⟨fun i j hi hj e => ((h i j hi hj).1 e).1, fun i j hi hj e => ((h i j hi hj).1 e).2, fun _ h1 h2 i j hi hj e => (h i j hi hj).2 ⟨h1 i j hi hj e, h2 i j hi hj e⟩⟩
/-- What the pjoin of two lists is. -/
def Jn (n : Nat) (p q r : Nat → Int) : Prop := le n p r ∧ le n q r ∧ ∀ f, le n p f → le n q f → le n r f
/-- Partitions that are finer than each other are one. -/
theorem anti {l r : List Int} (h1 : Vd l) (h2 : Vd r) (hl : l.length = r.length) (a : le l.length (gz l) (gz r)) (b : le l.length (gz r) (gz l)) : l = r := by
  have := ofL_congr hl a b
  rwa [h1, h2] at this
/-- The meet: the reference's way. -/
def meetR (p q : List Int) : List Int := (List.range p.length).map fun i => gz p i * 1000 + gz q i
theorem meetR_len (p q : List Int) : (meetR p q).length = p.length := by simp [meetR]
theorem meetR_gz {p q : List Int} {i : Nat} (h : i < p.length) : gz (meetR p q) i = gz p i * 1000 + gz q i := by
  simp [meetR, gz, h]
def meet (p q : List Int) : List Int := ofL (meetR p q)
theorem meet_len (p q : List Int) : (meet p q).length = p.length := by rw [meet, ofL_len, meetR_len]
theorem meet_vd (p q : List Int) : Vd (meet p q) := Vd.of_ _
/-- Both are partitions of as many numbers, at most 256. -/
structure Two (p q : List Int) : Prop where
  left : Vd p
  right : Vd q
  same : p.length = q.length
  most : p.length ≤ 256
theorem Two.swap {p q : List Int} (h : Two p q) : Two q p := ⟨h.right, h.left, h.same.symm, by have := h.most; have := h.same; omega⟩
theorem vd_gz {p : List Int} (h : Vd p) {i : Nat} (hi : i < p.length) : 0 ≤ gz p i ∧ gz p i < p.length := by
  have := h.bound (gz_mem hi)
  have := cnt_le p
  omega
theorem Two.meetR_mt {p q : List Int} (h : Two p q) : ∀ i j, i < p.length → j < p.length → (gz (meetR p q) i = gz (meetR p q) j ↔ gz p i = gz p j ∧ gz q i = gz q j) := by
  intro i j hi hj
  rw [meetR_gz hi, meetR_gz hj]
  have h1 := h.same
  have h2 := h.most
  have a := vd_gz h.right (i := i) (by omega)
  have b := vd_gz h.right (i := j) (by omega)
  omega
theorem Two.meet_of {p q l : List Int} (h : Two p q) (hl : l.length = p.length) (hm : ∀ i j, i < p.length → j < p.length → (gz l i = gz l j ↔ gz p i = gz p j ∧ gz q i = gz q j)) : ofL l = meet p q :=
  ofL_congr (by rw [hl, meetR_len]) (by rw [hl]; exact fun i j hi hj e => (h.meetR_mt i j hi hj).2 ((hm i j hi hj).1 e)) (by rw [hl]; exact fun i j hi hj e => (hm i j hi hj).2 ((h.meetR_mt i j hi hj).1 e))
theorem Two.meet_mt {p q : List Int} (h : Two p q) : Mt p.length (gz p) (gz q) (gz (meet p q)) := by
  have h1 := le_ofL (meetR p q)
  have h2 := ofL_le (meetR p q)
  rw [meetR_len] at h1 h2
  exact mt_of fun i j hi hj => ⟨fun e => (h.meetR_mt i j hi hj).1 (h2 i j hi hj e), fun e => h1 i j hi hj ((h.meetR_mt i j hi hj).2 e)⟩

/-- The first place of each number's block, and the number: the program's pairs. -/
def lk (p : List Int) : List (Nat × Nat) := (List.range p.length).map fun i => (p.idxOf (gz p i), i)
theorem idx_lt {p : List Int} {i : Nat} (h : i < p.length) : p.idxOf (gz p i) < p.length := List.idxOf_lt_length_iff.2 (gz_mem h)
theorem idx_gz {p : List Int} {i : Nat} (h : i < p.length) : gz p (p.idxOf (gz p i)) = gz p i := by
  have h1 := idx_lt h
  have := List.getElem_idxOf h1
  show (p[p.idxOf (gz p i)]?).getD 0 = gz p i
  rw [List.getElem?_eq_getElem h1]
  exact this
theorem lk_rng (p : List Int) : Rng p.length (lk p) := by
  intro x hx
  obtain ⟨i, hi, rfl⟩ := List.mem_map.1 hx
  have := List.mem_range.1 hi
  exact ⟨idx_lt this, this⟩
theorem lk_resp (p : List Int) (f : Nat → Int) : Resp (lk p) f ↔ le p.length (gz p) f := by
  constructor
  · intro h i j hi hj e
    have a := h (p.idxOf (gz p i), i) (List.mem_map.2 ⟨i, List.mem_range.2 hi, rfl⟩)
    have b := h (p.idxOf (gz p j), j) (List.mem_map.2 ⟨j, List.mem_range.2 hj, rfl⟩)
    simp only at a b
    rw [← a, ← b, e]
  · intro h x hx
    obtain ⟨i, hi, rfl⟩ := List.mem_map.1 hx
    have := List.mem_range.1 hi
    exact h _ _ (idx_lt this) this (idx_gz this)
/-- The reference's pairs: whatever one of both has together. -/
def rpRow (p q : List Int) (i : Nat) (m : Nat) : List (Nat × Nat) := ((List.range m).filter fun k => gz p i == gz p k || gz q i == gz q k).map fun k => (k, i)
def rp (p q : List Int) (n : Nat) : List (Nat × Nat) := (List.range n).flatMap fun i => rpRow p q i i
theorem mem_rp {p q : List Int} {n : Nat} {x : Nat × Nat} : x ∈ rp p q n ↔ x.2 < n ∧ x.1 < x.2 ∧ (gz p x.2 = gz p x.1 ∨ gz q x.2 = gz q x.1) := by
  obtain ⟨a, b⟩ := x
  simp [rp, rpRow, List.mem_flatMap]
  constructor
  · rintro ⟨i, hi, k, ⟨hk, h⟩, rfl, rfl⟩
    exact ⟨hi, hk, h⟩
  · rintro ⟨h1, h2, h3⟩
    exact ⟨b, h1, a, ⟨h2, h3⟩, rfl, rfl⟩
theorem rp_rng (p q : List Int) (n : Nat) : Rng n (rp p q n) := fun x hx => by have := mem_rp.1 hx; omega
theorem rp_resp (p q : List Int) (n : Nat) (f : Nat → Int) : Resp (rp p q n) f ↔ le n (gz p) f ∧ le n (gz q) f := by
  constructor
  · intro h
    refine ⟨fun i j hi hj e => ?_, fun i j hi hj e => ?_⟩
    all_goals
      rcases Nat.lt_trichotomy i j with h1 | h1 | h1
      · exact h (i, j) (mem_rp.2 ⟨hj, h1, by simp [e]⟩)
      · rw [h1]
      · exact (h (j, i) (mem_rp.2 ⟨hi, h1, by simp [e]⟩)).symm
  · rintro ⟨h1, h2⟩ x hx
    obtain ⟨a, b, c | c⟩ := mem_rp.1 hx
    · exact h1 _ _ (by omega) a c.symm
    · exact h2 _ _ (by omega) a c.symm
def pjoin (p q : List Int) : List Int := close p.length (rp p q p.length)
theorem join_len (p q : List Int) : (pjoin p q).length = p.length := close_len _ _
theorem join_vd (p q : List Int) : Vd (pjoin p q) := close_vd _ _
theorem rng_app {n : Nat} {a b : List (Nat × Nat)} (h1 : Rng n a) (h2 : Rng n b) : Rng n (a ++ b) := fun x hx => (List.mem_append.1 hx).elim (h1 x) (h2 x)
theorem resp_app {a b : List (Nat × Nat)} {f : Nat → Int} : Resp (a ++ b) f ↔ Resp a f ∧ Resp b f :=
  ⟨fun h => ⟨fun x hx => h x (List.mem_append_left _ hx), fun x hx => h x (List.mem_append_right _ hx)⟩, fun h x hx => (List.mem_append.1 hx).elim (h.1 x) (h.2 x)⟩
theorem join_links {p q : List Int} (h : p.length = q.length) : close p.length (lk p ++ lk q) = pjoin p q := by
  have hr : Rng p.length (lk p ++ lk q) := rng_app (lk_rng p) (by rw [h]; exact lk_rng q)
  have c := closeR_clo hr
  refine close_of (rp_rng _ _ _) (closeR_len _ _) ⟨?_, fun f hf => c.least f ?_⟩
  · rw [rp_resp]
    have := resp_app.1 c.keeps
    rw [lk_resp, lk_resp, ← h] at this
    exact this
  · rw [rp_resp] at hf
    rw [resp_app, lk_resp, lk_resp, ← h]
    exact hf
theorem join_jn (p q : List Int) : Jn p.length (gz p) (gz q) (gz (pjoin p q)) := by
  have c := close_clo (rp_rng p q p.length)
  have := (rp_resp p q p.length _).1 c.keeps
  exact ⟨this.1, this.2, fun f h1 h2 => c.least f ((rp_resp p q p.length f).2 ⟨h1, h2⟩)⟩
/-- Is the first one finer? -/
def fin (p q : List Int) : Prop := le p.length (gz p) (gz q)
theorem join_comm {p q : List Int} (h : p.length = q.length) : pjoin p q = pjoin q p := by
  have a := join_jn p q
  have b := join_jn q p
  rw [← h] at b
  refine anti (join_vd _ _) (join_vd _ _) (by rw [join_len, join_len, h]) ?_ ?_
  · rw [join_len]; exact a.2.2 _ b.2.1 b.1
  · rw [join_len]; exact b.2.2 _ a.2.1 a.1
theorem meet_comm {p q : List Int} (h : Two p q) : meet p q = meet q p := by
  have a := h.meet_mt
  have b := h.swap.meet_mt
  rw [← h.same] at b
  refine anti (meet_vd _ _) (meet_vd _ _) (by rw [meet_len, meet_len, h.same]) ?_ ?_
  · rw [meet_len]; exact b.2.2 _ a.2.1 a.1
  · rw [meet_len]; exact a.2.2 _ b.2.1 b.1
theorem two_meet {p q r : List Int} (h1 : Two p q) (h2 : Two p r) : Two (meet p q) r := ⟨meet_vd _ _, h2.right, by rw [meet_len, h2.same], by rw [meet_len]; exact h1.most⟩
theorem two_join {p q r : List Int} (h1 : Two p q) (h2 : Two p r) : Two (pjoin p q) r := ⟨join_vd _ _, h2.right, by rw [join_len, h2.same], by rw [join_len]; exact h1.most⟩
theorem two_qr {p q r : List Int} (h1 : Two p q) (h2 : Two p r) : Two q r := ⟨h1.right, h2.right, by rw [← h1.same, h2.same], by rw [← h1.same]; exact h1.most⟩
theorem meet_assoc {p q r : List Int} (h1 : Two p q) (h2 : Two p r) : meet (meet p q) r = meet p (meet q r) := by
  have h3 := two_qr h1 h2
  have a := h1.meet_mt
  have b := (two_meet h1 h2).meet_mt
  have c := h3.meet_mt
  have d := (Two.swap (two_meet h3 h1.swap)).meet_mt
  rw [meet_len] at b
  rw [← h1.same] at c
  refine anti (meet_vd _ _) (meet_vd _ _) (by rw [meet_len, meet_len, meet_len]) ?_ ?_
  · rw [meet_len, meet_len]
    exact d.2.2 _ (le_trans b.1 a.1) (c.2.2 _ (le_trans b.1 a.2.1) b.2.1)
  · rw [meet_len, meet_len]
    exact b.2.2 _ (a.2.2 _ d.1 (le_trans d.2.1 c.1)) (le_trans d.2.1 c.2.1)
theorem join_assoc {p q r : List Int} (h : p.length = q.length) : pjoin (pjoin p q) r = pjoin p (pjoin q r) := by
  have a := join_jn p q
  have b := join_jn (pjoin p q) r
  have c := join_jn q r
  have d := join_jn p (pjoin q r)
  rw [join_len] at b
  rw [← h] at c
  refine anti (join_vd _ _) (join_vd _ _) (by rw [join_len, join_len, join_len]) ?_ ?_
  · rw [join_len, join_len]
    exact b.2.2 _ (a.2.2 _ d.1 (le_trans c.1 d.2.1)) (le_trans c.2.1 d.2.1)
  · rw [join_len, join_len]
    exact d.2.2 _ (le_trans a.1 b.1) (c.2.2 _ (le_trans a.2.1 b.1) b.2.1)
theorem meet_absorb {p q : List Int} (h : Two p q) : meet p (pjoin p q) = p := by
  have a := join_jn p q
  have hj : Two p (pjoin p q) := ⟨h.left, join_vd _ _, (join_len _ _).symm, h.most⟩
  have b := hj.meet_mt
  refine anti (meet_vd _ _) h.left (meet_len _ _) ?_ ?_
  · rw [meet_len]; exact b.1
  · rw [meet_len]; exact b.2.2 _ (le_refl _ _) a.1
theorem join_absorb {p q : List Int} (h : Two p q) : pjoin p (meet p q) = p := by
  have a := h.meet_mt
  have b := join_jn p (meet p q)
  refine anti (join_vd _ _) h.left (join_len _ _) ?_ ?_
  · rw [join_len]; exact b.2.2 _ (le_refl _ _) a.1
  · rw [join_len]; exact b.1
theorem fin_meet {p q : List Int} (h : Two p q) : fin p q ↔ meet p q = p := by
  have a := h.meet_mt
  constructor
  · intro hf
    refine anti (meet_vd _ _) h.left (meet_len _ _) ?_ ?_
    · rw [meet_len]; exact a.1
    · rw [meet_len]; exact a.2.2 _ (le_refl _ _) hf
  · intro e
    rw [e] at a
    exact a.2.1
theorem fin_join {p q : List Int} (h : Two p q) : fin p q ↔ pjoin p q = q := by
  have a := join_jn p q
  constructor
  · intro hf
    refine anti (join_vd _ _) h.right (by rw [join_len, h.same]) ?_ ?_
    · rw [join_len]; exact a.2.2 _ hf (le_refl _ _)
    · rw [join_len]; exact a.2.1
  · intro e
    rw [e] at a
    exact a.1
theorem fin_less {p q : List Int} (h : Two p q) : fin (meet p q) p := by unfold fin; rw [meet_len]; exact h.meet_mt.1
theorem fin_more (p q : List Int) : fin p (pjoin p q) := (join_jn p q).1
theorem cnt_mono (l : List Int) : ∀ r : List Int, l.length = r.length → le l.length (gz l) (gz r) → cnt r ≤ cnt l := by
  induction l using snoc_rec with
  | h0 =>
    intro r hl _
    have : r = [] := List.eq_nil_of_length_eq_zero (by simpa using hl.symm)
    subst this
    exact Nat.le_refl _
  | h1 l z ih =>
    intro r hl h1
    have hne : r ≠ [] := by intro e; subst e; simp at hl
    obtain ⟨r', y, rfl⟩ : ∃ r' y, r = r' ++ [y] := ⟨_, _, (List.dropLast_concat_getLast hne).symm⟩
    have hl' : l.length = r'.length := by simpa using hl
    have gl : ∀ i, i < l.length → gz (l ++ [z]) i = gz l i := fun i hi => gz_left hi
    have gr : ∀ i, i < l.length → gz (r' ++ [y]) i = gz r' i := fun i hi => gz_left (by omega)
    have zl : gz (l ++ [z]) l.length = z := gz_snoc
    have zr : gz (r' ++ [y]) l.length = y := by rw [hl']; exact gz_snoc
    have hn : (l ++ [z]).length = l.length + 1 := by simp
    rw [hn] at h1
    have e2 := ih r' hl' (fun i j hi hj e => by have := h1 i j (by omega) (by omega); rw [gl i hi, gl j hj, gr i hi, gr j hj] at this; exact this e)
    by_cases hz : z ∈ l
    · obtain ⟨i, hi, ei⟩ := mem_gz hz
      have ey : gz r' i = y := by
        have := h1 i l.length (by omega) (by omega)
        rw [gl i hi, zl, gr i hi, zr] at this
        exact this ei
      have hy : y ∈ r' := by rw [← ey]; exact gz_mem (by omega)
      rw [cnt_old hz, cnt_old hy]
      exact e2
    · rw [cnt_new hz]
      by_cases hy : y ∈ r'
      · rw [cnt_old hy]; omega
      · rw [cnt_new hy]; omega
theorem cnt_meet {p q : List Int} (h : Two p q) : cnt p ≤ cnt (meet p q) := cnt_mono _ _ (meet_len p q) (by rw [meet_len]; exact h.meet_mt.1)
theorem cnt_join (p q : List Int) : cnt (pjoin p q) ≤ cnt p := cnt_mono _ _ (join_len p q).symm (join_jn p q).1
end Go.Proofs.YtnhibkkkpmaddaaDoor.M
