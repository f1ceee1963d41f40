/-
  The plain mathematics of a partition's text: lists of bytes, no program. No statement is proved here.
-/
import Derived.Test.YtnhibkkkpmaddaaDoorCloM
import Derived.Test.YtnhibkkkpmaddaaDoorParseM
import Derived.Lib.AtoiAllCases
import Derived.Lib.CountLaws
namespace Go.Proofs.YtnhibkkkpmaddaaDoor.M
open Go.Lib

/-! ### Cutting at borders -/
def bar : List UInt8 := [32, 124, 32]
theorem split_miss {s : List UInt8} (h : index s bar = -1) : split s bar = [s] := by
  unfold split
  rw [count_miss h]
  rfl
theorem split_hit {s : List UInt8} {i : Nat} (h : index s bar = i) : split s bar = s.take i :: split (s.drop (i + 3)) bar := by
  unfold split
  rw [count_hit (by simp [bar]) h, Nat.add_comm]
  have e : ¬ (index s bar == -1) = true := fun e => by have := beq_iff_eq.1 e; omega
  rw [splitK, if_neg e, h]
  rfl
theorem bar_at {p r : List UInt8} (h : ∀ c ∈ p, c ≠ 124) : index (p ++ bar ++ r) bar = p.length := by
  refine index_first (by simp) ?_ fun j hj => ?_
  · unfold occAt
    rw [List.append_assoc, List.drop_left]
    exact List.isPrefixOf_iff_prefix.2 ⟨r, rfl⟩
  · unfold occAt
    cases hp : bar.isPrefixOf ((p ++ bar ++ r).drop j) with
    | false => rfl
    | true =>
      obtain ⟨t, ht⟩ := List.isPrefixOf_iff_prefix.1 hp
      have h1 : ((p ++ bar ++ r).drop j)[1]? = some 124 := by rw [← ht]; rfl
      rw [List.getElem?_drop] at h1
      rcases Nat.lt_or_ge (j + 1) p.length with h2 | h2
      · rw [List.append_assoc, List.getElem?_append_left h2] at h1
        exact absurd rfl (h _ (List.mem_of_getElem? h1))
      · have h3 : j + 1 = p.length := by omega
        rw [List.append_assoc, List.getElem?_append_right (by omega), h3, Nat.sub_self] at h1
        simp [bar] at h1
theorem bar_none {p : List UInt8} (h : ∀ c ∈ p, c ≠ 124) : index p bar = -1 := by
  refine index_none fun j hj => ?_
  unfold occAt
  cases hp : bar.isPrefixOf (p.drop j) with
  | false => rfl
  | true =>
    obtain ⟨t, ht⟩ := List.isPrefixOf_iff_prefix.1 hp
    have h1 : (p.drop j)[1]? = some 124 := by rw [← ht]; rfl
    rw [List.getElem?_drop] at h1
    exact absurd rfl (h _ (List.mem_of_getElem? h1))
theorem join_two (x y : List UInt8) (r : List (List UInt8)) (sep : List UInt8) : join (x :: y :: r) sep = x ++ sep ++ join (y :: r) sep := by
  rw [join_cons, join_cons]
  simp [joinTail]
theorem split_join : ∀ (rows : List (List UInt8)), rows ≠ [] → (∀ q ∈ rows, ∀ c ∈ q, c ≠ 124) → split (join rows bar) bar = rows
  | [], h, _ => absurd rfl h
  | [x], _, h => by
    rw [join_one]
    exact split_miss (bar_none (h x (by simp)))
  | x :: y :: r, _, h => by
    rw [join_two, split_hit (bar_at (h x (by simp)))]
    have e1 : (x ++ bar ++ join (y :: r) bar).take x.length = x := by rw [List.append_assoc, List.take_left]
    have e2 : (x ++ bar ++ join (y :: r) bar).drop (x.length + 3) = join (y :: r) bar := by
      have : x.length + 3 = (x ++ bar).length := by simp [bar]
      rw [this, List.drop_left]
    rw [e1, e2, split_join (y :: r) (by simp) (fun q hq => h q (List.mem_cons_of_mem _ hq))]
theorem split_len : ∀ (n : Nat) (s : List UInt8), s.length ≤ n → (split s bar).length ≤ s.count 32 + 1 := by
  intro n
  induction n with
  | zero =>
    intro s hs
    have : s = [] := List.eq_nil_of_length_eq_zero (by omega)
    subst this
    decide
  | succ n ih =>
    intro s hs
    rcases index_spec s bar with ⟨h, _⟩ | ⟨i, h, hi, ho, _⟩
    · rw [split_miss h]; simp
    · rw [split_hit h]
      have hr := occAt_room ho
      have hr : i + 3 ≤ s.length := hr.resolve_right (by simp [bar])
      have h1 := ih (s.drop (i + 3)) (by rw [List.length_drop]; omega)
      have e : s = s.take i ++ (bar ++ s.drop (i + 3)) := by
        unfold occAt at ho
        obtain ⟨t, ht⟩ := List.isPrefixOf_iff_prefix.1 ho
        have : s.drop (i + 3) = t := by
          rw [← List.drop_drop, ← ht]
          rfl
        rw [this, ht, List.take_append_drop]
      have h2 : s.count 32 = (s.take i).count 32 + (2 + (s.drop (i + 3)).count 32) := by
        conv => lhs; rw [e, List.count_append, List.count_append]
        rfl
      simp only [List.length_cons]
      omega
theorem split_le (s : List UInt8) : (split s bar).length ≤ s.count 32 + 1 := split_len _ s (Nat.le_refl _)

/-! ### Numbers -/
def isd (c : UInt8) : Prop := 48 ≤ c.toNat ∧ c.toNat ≤ 57
theorem dig_is (u : Nat) : isd (UInt8.ofNat (48 + u % 10)) := by
  unfold isd
  rw [UInt8.toNat_ofNat']
  omega
theorem dec_isd : ∀ (u : Nat), ∀ c ∈ decDigits u, isd c := by
  intro u
  induction u using Nat.strongRecOn with
  | ind u ih =>
    intro c hc
    rw [decDigits] at hc
    split at hc
    · rename_i h
      have := dig_is u
      rw [Nat.mod_eq_of_lt h] at this
      rw [List.mem_singleton.1 hc]
      exact this
    · rcases List.mem_append.1 hc with h | h
      · exact ih (u / 10) (by omega) c h
      · rw [List.mem_singleton.1 h]
        exact dig_is u
theorem dec_ne (u : Nat) : decDigits u ≠ [] := by
  rw [decDigits]
  split <;> simp
theorem parse_snoc : ∀ (l : List UInt8) (acc a : Nat) (c : UInt8), parseUint10 acc l = .ok a → isd c → a < 1000000000000000000 → parseUint10 acc (l ++ [c]) = .ok (a * 10 + (c.toNat - 48))
  | [], acc, a, c, h, hc, ha => by
    obtain ⟨h1, h2⟩ := hc
    simp only [parseUint10] at h
    injection h with h
    subst h
    simp only [List.nil_append, parseUint10]
    rw [if_pos ⟨h1, h2⟩, if_neg (by omega), if_neg (by omega)]
  | d :: l, acc, a, c, h, hc, ha => by
    rw [List.cons_append]
    unfold parseUint10 at h ⊢
    split at h
    · rename_i h3
      rw [if_pos h3]
      split at h
      · cases h
      · rename_i h4
        rw [if_neg h4]
        split at h
        · cases h
        · rename_i h5
          rw [if_neg h5]
          exact parse_snoc l _ a c h hc ha
    · cases h
theorem parse_dec : ∀ (u : Nat), u < 1000000000000000000 → parseUint10 0 (decDigits u) = .ok u := by
  intro u
  induction u using Nat.strongRecOn with
  | ind u ih =>
    intro hu
    rw [decDigits]
    split
    · rename_i h
      have hd := dig_is u
      rw [Nat.mod_eq_of_lt h] at hd
      have := parse_snoc [] 0 0 _ rfl hd (by omega)
      rw [List.nil_append] at this
      rw [this, UInt8.toNat_ofNat']
      congr 1
      omega
    · rename_i h
      have := parse_snoc _ 0 _ (UInt8.ofNat (48 + u % 10)) (ih (u / 10) (by omega) (by omega)) (dig_is u) (by omega)
      rw [this, UInt8.toNat_ofNat']
      congr 1
      omega
theorem atoi_itoa (u : Nat) (hu : u < 1000000000000000000) : atoiAll (itoa u) = .ok (u : Int) := by
  unfold itoa
  rw [if_neg (by omega), Int.toNat_natCast]
  have h1 := parse_dec u hu
  have h2 := dec_isd u
  have h3 := dec_ne u
  generalize decDigits u = l at h1 h2 h3
  cases l with
  | nil => exact absurd rfl h3
  | cons c r =>
    have hc := h2 c (by simp)
    unfold isd at hc
    rw [atoiAll_plain c r (by omega) (by omega)]
    unfold signless parseMag
    rw [if_neg (by simp), h1]
    simp only
    rw [if_neg (by omega)]
/-- The number of a text that is below n. -/
def nm (t : List UInt8) (n : Nat) : Option Nat := match atoiAll t with
  | .ok v => if 0 ≤ v ∧ v < n then some v.toNat else none
  | _ => none
theorem nm_ok {t : List UInt8} {n k : Nat} {v : Int} (h : atoiAll t = .ok v) (hv : v = k) (hk : k < n) : nm t n = some k := by
  unfold nm
  rw [h]
  simp only
  rw [if_pos (by omega)]
  congr 1
  omega
theorem nm_out {t : List UInt8} {n : Nat} {v : Int} (h : atoiAll t = .ok v) (hv : ¬ (0 ≤ v ∧ v < n)) : nm t n = none := by
  unfold nm
  rw [h]
  simp only
  rw [if_neg hv]
theorem nm_syn {t : List UInt8} {n : Nat} (h : atoiAll t = NumEnd.syntax) : nm t n = none := by unfold nm; rw [h]
theorem nm_rng {t : List UInt8} {n : Nat} (h : atoiAll t = .range) : nm t n = none := by unfold nm; rw [h]
theorem nm_itoa {k n : Nat} (hk : k < n) (hn : n ≤ 100000) : nm (itoa k) n = some k := nm_ok (atoi_itoa k (by omega)) rfl hk

/-! ### Reading -/
def rdTs (b : Int) : List (List UInt8) → List Int → Option (List Int)
  | [], cur => some cur
  | t :: ts, cur => match nm t cur.length with
    | none => none
    | some k => rdTs b ts (cur.set k b)
def rdRows : Int → List (List UInt8) → List Int → Option (List Int)
  | _, [], cur => some cur
  | b, q :: qs, cur => match rdTs b (pieces q) cur with
    | none => none
    | some c => rdRows (b + 1) qs c
theorem rdTs_none {b : Int} {t : List UInt8} {ts : List (List UInt8)} {cur : List Int} (h : nm t cur.length = none) : rdTs b (t :: ts) cur = none := by simp [rdTs, h]
theorem rdTs_some {b : Int} {t : List UInt8} {ts : List (List UInt8)} {cur : List Int} {k : Nat} (h : nm t cur.length = some k) : rdTs b (t :: ts) cur = rdTs b ts (cur.set k b) := by simp [rdTs, h]
theorem rdRows_none {b : Int} {q : List UInt8} {qs : List (List UInt8)} {cur : List Int} (h : rdTs b (pieces q) cur = none) : rdRows b (q :: qs) cur = none := by simp [rdRows, h]
theorem rdRows_some {b : Int} {q : List UInt8} {qs : List (List UInt8)} {cur c : List Int} (h : rdTs b (pieces q) cur = some c) : rdRows b (q :: qs) cur = rdRows (b + 1) qs c := by simp [rdRows, h]
theorem rdTs_len {b : Int} : ∀ {ts : List (List UInt8)} {cur c : List Int}, rdTs b ts cur = some c → c.length = cur.length
  | [], cur, c, h => by simp only [rdTs] at h; injection h with h; rw [h]
  | t :: ts, cur, c, h => by
    cases hn : nm t cur.length with
    | none => rw [rdTs_none hn] at h; cases h
    | some k =>
      rw [rdTs_some hn] at h
      rw [rdTs_len h, List.length_set]
/-- How many numbers a text can have. -/
def room (s : List UInt8) : Nat := s.count 32 + 2 - (split s bar).length
def readL (s : List UInt8) : Option (List Int) := if s = [45] then some [] else rdRows 0 (split s bar) (List.replicate (room s) 0)

/-! ### Texts -/
/-- The numbers of a block. -/
def blk (p : List Int) (b : Nat) : List Int := (iota p.length).filter fun i => gz p i.toNat == (b : Int)
def rowT (p : List Int) (b : Nat) : List UInt8 := join ((blk p b).map itoa) [32]
def textP (p : List Int) : List UInt8 := if p = [] then [45] else join ((List.range (cnt p)).map (rowT p)) bar
/-- What Parse returns. -/
def pparse (s : List UInt8) : List Int × Int := if 65536 < s.length then ([], 3) else match readL s with
  | none => ([], 4)
  | some p => if pck p = 0 ∧ textP p = s then (p, 0) else ([], 4)
theorem mem_blk {p : List Int} {b : Nat} {x : Int} : x ∈ blk p b ↔ ∃ i : Nat, i < p.length ∧ x = i ∧ gz p i = b := by
  unfold blk iota
  rw [List.mem_filter, List.mem_map]
  constructor
  · rintro ⟨⟨i, hi, rfl⟩, h⟩
    exact ⟨i, List.mem_range.1 hi, rfl, by simpa using h⟩
  · rintro ⟨i, hi, rfl, h⟩
    exact ⟨⟨i, List.mem_range.2 hi, rfl⟩, by simpa using h⟩
theorem blk_ne {p : List Int} (h : Vd p) {b : Nat} (hb : b < cnt p) : blk p b ≠ [] := by
  obtain ⟨i, hi, e⟩ := mem_gz (h.has b hb)
  exact List.ne_nil_of_mem (mem_blk.2 ⟨i, hi, rfl, e⟩)
theorem count_lt (m : Int) (f : Int → Int) : ∀ l : List Int, (l.filter fun i => decide (f i < m + 1)).length = (l.filter fun i => decide (f i < m)).length + (l.filter fun i => f i == m).length
  | [] => rfl
  | x :: l => by
    have ih := count_lt m f l
    rw [List.filter_cons, List.filter_cons, List.filter_cons]
    by_cases h1 : f x < m
    · have a : f x < m + 1 := by omega
      have b : ¬ f x = m := by omega
      simp [h1, a, b, ih]
      omega
    · by_cases h2 : f x = m
      · have a : f x < m + 1 := by omega
        have b : (f x == m) = true := by simpa using h2
        rw [if_pos (by simpa using a), if_neg (by simpa using h1), if_pos b, List.length_cons, List.length_cons, ih]
        omega
      · have a : ¬ f x < m + 1 := by omega
        simp [h1, a, h2, ih]
def lens (p : List Int) : Nat → Nat
  | 0 => 0
  | m + 1 => lens p m + (blk p m).length
theorem lens_eq {p : List Int} (h0 : ∀ i, i < p.length → 0 ≤ gz p i) : ∀ m : Nat, lens p m = ((iota p.length).filter fun i => decide (gz p i.toNat < m)).length
  | 0 => by
    have : ((iota p.length).filter fun i => decide (gz p i.toNat < (0 : Nat))) = [] := by
      rw [List.filter_eq_nil_iff]
      intro x hx
      unfold iota at hx
      obtain ⟨i, hi, rfl⟩ := List.mem_map.1 hx
      have := h0 i (List.mem_range.1 hi)
      simp
      exact this
    rw [this]
    rfl
  | m + 1 => by
    rw [lens, lens_eq h0 m]
    have := count_lt m (fun i => gz p i.toNat) (iota p.length)
    unfold blk
    rw [← this]
    rfl
theorem lens_all {p : List Int} (h : Vd p) : lens p (cnt p) = p.length := by
  rw [lens_eq (fun i hi => (vd_gz h hi).1)]
  have : ((iota p.length).filter fun i => decide (gz p i.toNat < (cnt p : Nat))) = iota p.length := by
    rw [List.filter_eq_self]
    intro x hx
    unfold iota at hx
    obtain ⟨i, hi, rfl⟩ := List.mem_map.1 hx
    have := h.bound (gz_mem (List.mem_range.1 hi))
    simpa using this.2
  rw [this, iota_len]
theorem join_count (sep : List UInt8) : ∀ (rows : List (List UInt8)), rows ≠ [] → (join rows sep).count 32 + sep.count 32 = (rows.map fun q => q.count 32 + sep.count 32).sum
  | [], h => absurd rfl h
  | [x], _ => by rw [join_one]; simp
  | x :: y :: r, _ => by
    have ih := join_count sep (y :: r) (by simp)
    rw [join_two, List.count_append, List.count_append, List.map_cons, List.sum_cons, ← ih]
    omega
theorem itoa_isd (k : Nat) : ∀ c ∈ itoa k, isd c := by
  unfold itoa
  rw [if_neg (by omega), Int.toNat_natCast]
  exact dec_isd k
theorem itoa_ne (k : Nat) : itoa k ≠ [] := by
  unfold itoa
  rw [if_neg (by omega), Int.toNat_natCast]
  exact dec_ne k
theorem not_blank {c : UInt8} (h : isd c) : c ≠ 32 := by intro e; subst e; exact absurd h (by unfold isd; decide)
theorem not_bar {c : UInt8} (h : isd c) : c ≠ 124 := by intro e; subst e; exact absurd h (by unfold isd; decide)
def Nats (is : List Int) (n : Nat) : Prop := ∀ x ∈ is, ∃ i : Nat, x = i ∧ i < n
theorem blk_nats (p : List Int) (b : Nat) : Nats (blk p b) p.length := fun x hx => by
  obtain ⟨i, hi, rfl, _⟩ := mem_blk.1 hx
  exact ⟨i, rfl, hi⟩
theorem row_chars {is : List Int} {n : Nat} (h : Nats is n) : ∀ c ∈ join (is.map itoa) [32], c = 32 ∨ isd c := by
  have key : ∀ (l : List (List UInt8)), (∀ q ∈ l, ∀ c ∈ q, isd c) → ∀ c ∈ join l [32], c = 32 ∨ isd c := by
    intro l
    match l with
    | [] => intro _ c hc; rw [join_nil] at hc; cases hc
    | [x] => intro h c hc; rw [join_one] at hc; exact .inr (h x (by simp) c hc)
    | x :: y :: r =>
      intro h c hc
      rw [join_cons] at hc
      rcases List.mem_append.1 hc with h1 | h1
      · exact .inr (h x (by simp) c h1)
      · unfold joinTail at h1
        obtain ⟨q, hq, hc⟩ := List.mem_flatten.1 h1
        obtain ⟨t, ht, rfl⟩ := List.mem_map.1 hq
        rcases List.mem_append.1 hc with h2 | h2
        · exact .inl (List.mem_singleton.1 h2)
        · exact .inr (h t (List.mem_cons_of_mem _ ht) c h2)
  refine key _ fun q hq => ?_
  obtain ⟨x, hx, rfl⟩ := List.mem_map.1 hq
  obtain ⟨i, rfl, _⟩ := h x hx
  exact itoa_isd i
theorem row_bar {is : List Int} {n : Nat} (h : Nats is n) : ∀ c ∈ join (is.map itoa) [32], c ≠ 124 := fun c hc => by
  rcases row_chars h c hc with rfl | h1
  · decide
  · exact not_bar h1
theorem pieces_join : ∀ (l : List (List UInt8)), l ≠ [] → (∀ q ∈ l, ∀ c ∈ q, c ≠ 32) → pieces (join l [32]) = l
  | [], h, _ => absurd rfl h
  | [x], _, h => by rw [join_one]; exact pieces_none (h x (by simp))
  | x :: y :: r, _, h => by
    rw [join_two, List.append_assoc, List.singleton_append, pieces_hit (h x (by simp)), pieces_join (y :: r) (by simp) (fun q hq => h q (List.mem_cons_of_mem _ hq))]
theorem row_pieces {is : List Int} {n : Nat} (h : Nats is n) (h0 : is ≠ []) : pieces (join (is.map itoa) [32]) = is.map itoa := by
  refine pieces_join _ (by simpa using h0) fun q hq c hc => ?_
  obtain ⟨x, hx, rfl⟩ := List.mem_map.1 hq
  obtain ⟨i, rfl, _⟩ := h x hx
  exact not_blank (itoa_isd i c hc)
theorem row_count {is : List Int} {n : Nat} (h : Nats is n) (h0 : is ≠ []) : (join (is.map itoa) [32]).count 32 + 1 = is.length := by
  have := join_count [32] (is.map itoa) (by simpa using h0)
  have e : (is.map itoa).map (fun q => q.count 32 + ([32] : List UInt8).count 32) = is.map fun _ => 1 := by
    rw [List.map_map]
    refine List.map_congr_left fun x hx => ?_
    obtain ⟨i, rfl, _⟩ := h x hx
    have : (itoa i).count 32 = 0 := List.count_eq_zero.2 fun hm => not_blank (itoa_isd i 32 hm) rfl
    simp [this]
  rw [e] at this
  have e2 : ([32] : List UInt8).count 32 = 1 := rfl
  rw [e2] at this
  rw [this]
  clear this e h h0
  induction is with
  | nil => rfl
  | cons a l ih => rw [List.map_cons, List.sum_cons, ih, List.length_cons]; omega
theorem rdTs_nats {b : Int} : ∀ {is : List Int} {cur : List Int}, Nats is cur.length → cur.length ≤ 100000 → rdTs b (is.map itoa) cur = some (is.foldl (fun c x => c.set x.toNat b) cur)
  | [], cur, _, _ => rfl
  | x :: is, cur, h, hl => by
    obtain ⟨i, rfl, hi⟩ := h x (by simp)
    rw [List.map_cons, rdTs_some (nm_itoa hi hl), List.foldl_cons]
    exact rdTs_nats (fun y hy => by rw [List.length_set]; exact h y (List.mem_cons_of_mem _ hy)) (by rw [List.length_set]; exact hl)
theorem fold_len {b : Int} : ∀ (is : List Int) (cur : List Int), (is.foldl (fun c x => c.set x.toNat b) cur).length = cur.length
  | [], _ => rfl
  | x :: is, cur => by rw [List.foldl_cons, fold_len is]; exact List.length_set
theorem fold_gz {b : Int} : ∀ (is : List Int) (cur : List Int) (n : Nat), Nats is n → cur.length = n → ∀ k, k < n → gz (is.foldl (fun c x => c.set x.toNat b) cur) k = if (k : Int) ∈ is then b else gz cur k
  | [], cur, n, _, _, k, _ => by simp
  | x :: is, cur, n, h, hl, k, hk => by
    obtain ⟨i, rfl, hi⟩ := h x (by simp)
    rw [List.foldl_cons, fold_gz is _ n (fun y hy => h y (List.mem_cons_of_mem _ hy)) (by rw [List.length_set, hl]) k hk, Int.toNat_natCast, gz_set (by omega)]
    by_cases h1 : (k : Int) ∈ is
    · simp [h1]
    · by_cases h2 : k = i
      · subst h2; simp
      · have : ¬ (k : Int) = i := by omega
        simp [h1, h2, this]
theorem rows_read {p : List Int} (hp : Vd p) (hl : p.length ≤ 100000) : ∀ (m b : Nat) (cur : List Int), b + m = cnt p → cur.length = p.length → (∀ k, k < p.length → gz cur k = if gz p k < b then gz p k else 0) →
    rdRows b ((List.range' b m).map (rowT p)) cur = some p
  | 0, b, cur, hb, hc, hg => by
    have : cur = p := ext_gz hc fun k hk => by
      rw [hg k (by omega), if_pos]
      have := hp.bound (gz_mem (l := p) (i := k) (by omega))
      omega
    rw [this]
    rfl
  | m + 1, b, cur, hb, hc, hg => by
    have hn := blk_nats p b
    rw [List.range'_succ, List.map_cons]
    have h1 : rdTs b (pieces (rowT p b)) cur = some ((blk p b).foldl (fun c x => c.set x.toNat b) cur) := by
      unfold rowT
      rw [row_pieces hn (blk_ne hp (by omega))]
      exact rdTs_nats (by rw [hc]; exact hn) (by omega)
    rw [rdRows_some h1]
    have := rows_read hp hl m (b + 1) ((blk p b).foldl (fun c x => c.set x.toNat b) cur) (by omega) (by rw [fold_len, hc]) fun k hk => by
      rw [fold_gz _ _ p.length hn hc k hk, hg k hk]
      by_cases h2 : gz p k = b
      · rw [if_pos (mem_blk.2 ⟨k, hk, rfl, h2⟩), if_pos (by omega), h2]
      · rw [if_neg (fun hm => by obtain ⟨i, _, e, h3⟩ := mem_blk.1 hm; have hki : k = i := (by omega); subst hki; exact h2 h3)]
        by_cases h3 : gz p k < b
        · rw [if_pos h3, if_pos (by omega)]
        · rw [if_neg h3, if_neg (by omega)]
    exact this
theorem cnt_pos {p : List Int} (h : p ≠ []) : 0 < cnt p := by
  rcases Nat.eq_zero_or_pos (cnt p) with h1 | h1
  · obtain ⟨x, hx⟩ := List.exists_mem_of_ne_nil p h
    have := nu_lt hx
    omega
  · exact h1
theorem sum_rows {p : List Int} (hp : Vd p) : ∀ m : Nat, m ≤ cnt p → (((List.range m).map (rowT p)).map fun q => q.count 32 + bar.count 32).sum = lens p m + m
  | 0, _ => rfl
  | m + 1, hm => by
    rw [List.range_succ, List.map_append, List.map_append, List.sum_append, sum_rows hp m (by omega), lens]
    have := row_count (blk_nats p m) (blk_ne hp (by omega))
    have e : bar.count 32 = 2 := rfl
    simp only [List.map_cons, List.map_nil, List.sum_cons, List.sum_nil, rowT, e]
    omega
/-- What is written is read. -/
theorem read_text {p : List Int} (hp : Vd p) (hl : p.length ≤ 100000) : readL (textP p) = some p := by
  unfold textP
  by_cases h0 : p = []
  · rw [if_pos h0, h0]
    rfl
  · rw [if_neg h0]
    have hc := cnt_pos h0
    have hne : (List.range (cnt p)).map (rowT p) ≠ [] := by simp; omega
    have hs : split (join ((List.range (cnt p)).map (rowT p)) bar) bar = (List.range (cnt p)).map (rowT p) := by
      refine split_join _ hne fun q hq => ?_
      obtain ⟨b, _, rfl⟩ := List.mem_map.1 hq
      exact row_bar (blk_nats p b)
    have hcount := join_count bar _ hne
    rw [sum_rows hp _ (Nat.le_refl _), lens_all hp] at hcount
    have e : bar.count 32 = 2 := rfl
    rw [e] at hcount
    have hroom : room (join ((List.range (cnt p)).map (rowT p)) bar) = p.length := by
      unfold room
      rw [hs, List.length_map, List.length_range]
      omega
    have hd : join ((List.range (cnt p)).map (rowT p)) bar ≠ [45] := by
      intro e
      have h1 : split ([45] : List UInt8) bar = [[45]] := split_miss (bar_none (by decide))
      rw [e, h1] at hs
      have h2 : cnt p = 1 := by have := congrArg List.length hs; simpa using this.symm
      rw [h2] at hs
      have h3 : rowT p 0 = [45] := by simpa using hs.symm
      have h4 := row_chars (blk_nats p 0) 45 (by show (45 : UInt8) ∈ rowT p 0; rw [h3]; simp)
      rcases h4 with h4 | h4
      · exact absurd h4 (by decide)
      · exact absurd h4 (by unfold isd; decide)
    unfold readL
    rw [if_neg hd, hs, hroom, List.range_eq_range']
    refine rows_read hp hl (cnt p) 0 _ (by omega) (by simp) fun k hk => ?_
    have := (vd_gz hp hk).1
    rw [if_neg (by simp; omega)]
    simp [gz, hk]
theorem parse_text {p : List Int} (h : pck p = 0) (hl : (textP p).length ≤ 65536) : pparse (textP p) = (p, 0) := by
  obtain ⟨h1, h2⟩ := pck_zero h
  unfold pparse
  rw [if_neg (by omega), read_text h2 (by omega)]
  simp [h]
end Go.Proofs.YtnhibkkkpmaddaaDoor.M
