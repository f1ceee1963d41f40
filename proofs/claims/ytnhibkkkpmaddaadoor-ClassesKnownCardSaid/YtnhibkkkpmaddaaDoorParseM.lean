/-
  The plain mathematics of reading: lists of bytes, no program. No statement is proved here.
-/
import Derived.Test.YtnhibkkkpmaddaaDoorTextM
import Derived.Lib.SplitLaws
import Derived.Lib.IndexBytes
import Derived.Lib.IndexLaws
namespace Go.Proofs.YtnhibkkkpmaddaaDoor.M
open Go.Lib

/-- Is a byte no digit? -/
def nod (c : UInt8) : Bool := decide ((c.toNat : Int) < 48) || decide (57 < (c.toNat : Int))
theorem nod_no {c : UInt8} (h : ¬ nod c = true) : 48 ≤ (c.toNat : Int) ∧ (c.toNat : Int) ≤ 57 := by
  simp [nod] at h
  omega
theorem nod_yes {c : UInt8} (h : nod c = true) : (c.toNat : Int) < 48 ∨ 57 < (c.toNat : Int) := by
  simp [nod] at h
  omega
/-- The number of some digits. -/
def val (l : List UInt8) : Int := l.foldl (fun n c => 10 * n + ((c.toNat : Int) - 48)) 0
theorem val_snoc (l : List UInt8) (c : UInt8) : val (l ++ [c]) = 10 * val l + ((c.toNat : Int) - 48) := by simp [val, List.foldl_append]
/-- Is it the text of a number that is read? -/
def numOk (l : List UInt8) : Bool := !(decide (l.length < 1) || decide (9 < l.length) || (decide (1 < l.length) && decide (l[0]? = some 48))) && !(l.any nod)
def numV (l : List UInt8) : Int := if numOk l then val l else 0
theorem num_bad {l : List UInt8} (h : l.length < 1 ∨ 9 < l.length ∨ (1 < l.length ∧ l[0]? = some 48)) : numOk l = false ∧ numV l = 0 := by
  have : numOk l = false := by
    unfold numOk
    rcases h with h | h | ⟨h, g⟩
    · simp [h]
    · simp [h]
    · simp [h, g]
  exact ⟨this, by simp [numV, this]⟩
theorem num_hit {l : List UInt8} {k : Nat} {c : UInt8} (hk : l[k]? = some c) (h : nod c = true) : numOk l = false ∧ numV l = 0 := by
  have : l.any nod = true := List.any_eq_true.2 ⟨c, List.mem_of_getElem? hk, h⟩
  have : numOk l = false := by simp [numOk, this]
  exact ⟨this, by simp [numV, this]⟩
theorem num_ok {l : List UInt8} (h1 : ¬ l.length < 1) (h2 : ¬ 9 < l.length) (h3 : ¬ (1 < l.length ∧ l[0]? = some 48)) (h4 : l.any nod = false) : numOk l = true ∧ numV l = val l := by
  have : numOk l = true := by
    unfold numOk
    simp only [h4, h1, h2]
    by_cases a : 1 < l.length
    · have : ¬ l[0]? = some 48 := fun e => h3 ⟨a, e⟩
      simp [this]
    · simp [a]
  exact ⟨this, by simp [numV, this]⟩
theorem val_bound : ∀ (k : Nat) (l : List UInt8), l.length = k → l.any nod = false → 0 ≤ val l ∧ val l < 10 ^ k := by
  intro k
  induction k with
  | zero =>
    intro l hl _
    have : l = [] := List.eq_nil_of_length_eq_zero hl
    subst this
    simp [val]
  | succ k ih =>
    intro l hl hn
    rcases List.eq_nil_or_concat l with rfl | ⟨p, c, rfl⟩
    · simp at hl
    · rw [List.concat_eq_append] at hl hn ⊢
      rw [List.any_append, Bool.or_eq_false_iff] at hn
      obtain ⟨a, b⟩ := ih p (by simpa using hl) hn.1
      have hc := nod_no (c := c) (by simpa using hn.2)
      rw [val_snoc, Int.pow_succ]
      omega
theorem val_small {l : List UInt8} (hl : l.length ≤ 10) (hn : l.any nod = false) : 0 ≤ val l ∧ val l < 10000000000 := by
  obtain ⟨a, b⟩ := val_bound _ l rfl hn
  have hh : ∀ j : Fin 11, (10 : Int) ^ j.val ≤ 10000000000 := by decide
  have := hh ⟨l.length, by omega⟩
  simp only at this
  omega

/-- The pieces between the blanks. -/
def pieces : List UInt8 → List (List UInt8)
  | [] => [[]]
  | c :: t => if c = 32 then [] :: pieces t else
    match pieces t with
    | [] => [[c]]
    | p :: ps => (c :: p) :: ps
theorem pieces_ne (l : List UInt8) : pieces l ≠ [] := by
  cases l with
  | nil => simp [pieces]
  | cons c t =>
    unfold pieces
    split
    · simp
    · split <;> simp
theorem pieces_none {l : List UInt8} (h : ∀ c ∈ l, c ≠ 32) : pieces l = [l] := by
  induction l with
  | nil => rfl
  | cons c t ih =>
    have h1 := ih (fun x hx => h x (by simp [hx]))
    have h2 := h c (by simp)
    simp [pieces, h1, h2]
theorem pieces_hit {p r : List UInt8} (h : ∀ c ∈ p, c ≠ 32) : pieces (p ++ 32 :: r) = p :: pieces r := by
  induction p with
  | nil => simp [pieces]
  | cons c t ih =>
    have h1 := ih (fun x hx => h x (by simp [hx]))
    have h2 := h c (by simp)
    simp [pieces, h1, h2]
theorem splitK_pieces : ∀ (m : Nat) (s : List UInt8), s.length ≤ m → splitK [32] 0 (count s [32]) s = pieces s := by
  intro m
  induction m with
  | zero =>
    intro s hs
    have : s = [] := List.eq_nil_of_length_eq_zero (by omega)
    subst this
    rfl
  | succ m ih =>
    intro s hs
    rcases Int.lt_or_le (index s [32]) 0 with hneg | hpos
    · have hm : index s [32] = -1 := by have := index_ge s [32]; omega
      rw [count_miss hm]
      have hb := index_one s 32
      rw [hm] at hb
      have hno := indexByte_none hb.symm
      rw [pieces_none (fun c hc => by
        obtain ⟨k, hk, rfl⟩ := List.getElem_of_mem hc
        intro e
        exact hno k (by rw [List.getElem?_eq_getElem hk, e]))]
      rfl
    · obtain ⟨i, hi⟩ : ∃ i : Nat, index s [32] = i := ⟨(index s [32]).toNat, by omega⟩
      have hb := index_one s 32
      rw [hi] at hb
      obtain ⟨h1, h2⟩ := indexByte_some hb.symm
      have hlt : i < s.length := by
        rcases Nat.lt_or_ge i s.length with h | h
        · exact h
        · rw [List.getElem?_eq_none h] at h1; cases h1
      have hs2 : s = s.take i ++ 32 :: s.drop (i + 1) := by
        rw [List.getElem?_eq_getElem hlt] at h1
        injection h1 with h1
        conv => lhs; rw [← List.take_append_drop i s, List.drop_eq_getElem_cons hlt, h1]
      have hno : ∀ c ∈ s.take i, c ≠ 32 := fun c hc => by
        obtain ⟨k, hk, rfl⟩ := List.getElem_of_mem hc
        rw [List.length_take] at hk
        intro e
        refine h2 k (by omega) ?_
        rw [List.getElem_take] at e
        rw [List.getElem?_eq_getElem (by omega), e]
      have hc : count s [32] = 1 + count (s.drop (i + 1)) [32] := count_hit (by simp) hi
      rw [hc, Nat.add_comm]
      have e : ¬ (index s [32] == -1) = true := fun e => by have := beq_iff_eq.1 e; omega
      rw [splitK, if_neg e, hi]
      conv => rhs; rw [hs2, pieces_hit hno]
      have := ih (s.drop (i + 1)) (by rw [List.length_drop]; omega)
      simp only [Int.toNat_natCast, Nat.add_zero, List.length_singleton]
      rw [this]
theorem split_pieces (s : ByteArray) : (splitB ⟨#[32]⟩ 0 (countB s ⟨#[32]⟩) s).map (·.data.toList) = pieces s.data.toList := by
  rw [splitB_data]
  exact splitK_pieces _ _ (Nat.le_refl _)
theorem pieces_le (l : List UInt8) : ∀ p ∈ pieces l, p.length ≤ l.length := by
  induction l with
  | nil => intro p hp; simp [pieces] at hp; subst hp; simp
  | cons c t ih =>
    intro p hp
    unfold pieces at hp
    split at hp
    · rcases List.mem_cons.1 hp with rfl | h
      · simp
      · have := ih p h; simp; omega
    · split at hp
      · simp at hp; subst hp; simp
      · rename_i q qs hq
        rcases List.mem_cons.1 hp with rfl | h
        · have := ih q (by rw [hq]; simp); simp; omega
        · have := ih p (by rw [hq]; simp [h]); simp; omega
theorem pieces_count (l : List UInt8) : (pieces l).length ≤ l.length + 1 := by
  induction l with
  | nil => simp [pieces]
  | cons c t ih =>
    unfold pieces
    split
    · simp; omega
    · split
      · simp
      · rename_i q qs hq
        rw [hq] at ih
        simp at ih ⊢
        omega
/-! ### Lists of pieces -/
def numsOk (ps : List (List UInt8)) : Bool := ps.all numOk
/-- Is it the text of a list? -/
def listOk (l : List UInt8) : Bool := decide (l = [45]) || numsOk (pieces l)
def listV (l : List UInt8) : List Int := if l = [45] then [] else if numsOk (pieces l) then (pieces l).map numV else []
theorem list_dash : listOk [45] = true ∧ listV [45] = [] := ⟨rfl, rfl⟩
theorem list_bad {l : List UInt8} (h : l ≠ [45]) {k : Nat} {p : List UInt8} (hk : (pieces l)[k]? = some p) (hp : numOk p = false) : listOk l = false ∧ listV l = [] := by
  have h2 : numsOk (pieces l) = false := by
    rw [Bool.eq_false_iff]
    intro e
    have := List.all_eq_true.1 e p (List.mem_of_getElem? hk)
    rw [hp] at this
    cases this
  exact ⟨by simp [listOk, h, h2], by simp [listV, h, h2]⟩
theorem list_good {l : List UInt8} (h : l ≠ [45]) (hp : numsOk (pieces l) = true) : listOk l = true ∧ listV l = (pieces l).map numV := ⟨by simp [listOk, hp], by simp [listV, h, hp]⟩
theorem nums_snoc {ps : List (List UInt8)} {k : Nat} {p : List UInt8} (hk : ps[k]? = some p) (h : numsOk (ps.take k) = true) (hp : numOk p = true) : numsOk (ps.take (k + 1)) = true := by
  unfold numsOk at h ⊢
  rw [List.take_add_one, hk, List.all_append, h]
  simp [hp]
/-- The state of readList's loop. -/
def Rl (ps : List (List UInt8)) (k : Nat) (cur : List Int) : Prop := cur = (ps.take k).map numV ++ List.replicate (ps.length - k) 0
theorem Rl.start (ps : List (List UInt8)) : Rl ps 0 (List.replicate ps.length 0) := by simp [Rl]
theorem Rl.len {ps : List (List UInt8)} {k : Nat} {cur : List Int} (h : Rl ps k cur) (hk : k ≤ ps.length) : cur.length = ps.length := by
  rw [h]
  simp
  omega
theorem Rl.step {ps : List (List UInt8)} {k : Nat} {cur : List Int} {p : List UInt8} (h : Rl ps k cur) (hp : ps[k]? = some p) : Rl ps (k + 1) (cur.set k (numV p)) := by
  have hk : k < ps.length := by
    rcases Nat.lt_or_ge k ps.length with h1 | h1
    · exact h1
    · rw [List.getElem?_eq_none h1] at hp; cases hp
  have e1 : List.replicate (ps.length - k) (0 : Int) = 0 :: List.replicate (ps.length - (k + 1)) 0 := by
    rw [show ps.length - k = (ps.length - (k + 1)) + 1 by omega, List.replicate_succ]
  have hs : ∀ (a b : List Int) (y v : Int) (m : Nat), a.length = m → (a ++ y :: b).set m v = a ++ v :: b := fun a b y v m hm => by subst hm; simp
  have e3 : ps.take (k + 1) = ps.take k ++ [p] := by rw [List.take_add_one, hp]; rfl
  unfold Rl at h ⊢
  rw [h, e1, hs _ _ _ _ _ (by simp; omega), e3]
  simp
theorem Rl.done {ps : List (List UInt8)} {cur : List Int} (h : Rl ps ps.length cur) : cur = ps.map numV := by
  rw [h]
  simp
theorem numV_bound {l : List UInt8} : 0 ≤ numV l ∧ numV l < 10000000000 := by
  unfold numV
  split
  · rename_i h
    have h1 : ¬ 9 < l.length := by
      intro e
      rw [(num_bad (.inr (.inl e))).1] at h
      cases h
    have h2 : l.any nod = false := by
      unfold numOk at h
      simp only [Bool.and_eq_true, Bool.not_eq_true'] at h
      exact h.2
    exact val_small (by omega) h2
  · omega
/-- What Parse hands back: the error, the word. -/
def parseE (l : List UInt8) (n : Int) : Int := if listOk l then check (listV l) n else 4
def parseV (l : List UInt8) (n : Int) : List Int := if parseE l n = 0 then listV l else []
theorem parse_form {l : List UInt8} {n : Int} (h : listOk l = false) : parseE l n = 4 ∧ parseV l n = [] := by
  have : parseE l n = 4 := by simp [parseE, h]
  exact ⟨this, by simp [parseV, this]⟩
theorem parse_err {l : List UInt8} {n q : Int} (h : listOk l = true) (hq : check (listV l) n = q) (h0 : q ≠ 0) : parseE l n = q ∧ parseV l n = [] := by
  have : parseE l n = q := by simp [parseE, h, hq]
  exact ⟨this, by simp [parseV, this, h0]⟩
theorem parse_ok {l : List UInt8} {n : Int} (h : listOk l = true) (hq : check (listV l) n = 0) : parseE l n = 0 ∧ parseV l n = listV l := by
  have : parseE l n = 0 := by simp [parseE, h, hq]
  exact ⟨this, by simp [parseV, this]⟩
/-! ### Numbers, digit by digit -/
theorem numB_digit (c : Nat) (h : c < 10) : (⟨#[48, 49, 50, 51, 52, 53, 54, 55, 56, 57]⟩ : ByteArray).extract c (c + 1) = numB c := by
  have hh : ∀ j : Fin 10, (⟨#[48, 49, 50, 51, 52, 53, 54, 55, 56, 57]⟩ : ByteArray).extract j.val (j.val + 1) = ⟨#[UInt8.ofNat (48 + j.val)]⟩ := by decide
  rw [hh ⟨c, h⟩]
  unfold numB itoa
  rw [if_neg (by omega), decDigits, dif_pos (by omega)]
  simp
theorem bytes_eq {a b : ByteArray} (h : a.data.toList = b.data.toList) : a = b := by
  obtain ⟨⟨x⟩⟩ := a
  obtain ⟨⟨y⟩⟩ := b
  simp at h
  subst h
  rfl
theorem numB_list (z : Int) : (numB z).data.toList = itoa z := rfl
theorem numB_size {z : Int} (h1 : -9223372036854775808 ≤ z) (h2 : z ≤ 9223372036854775807) : (numB z).size ≤ 21 := by
  rw [Lib.size_eq, numB_list]
  exact itoa_len h1 h2
theorem numB_pos {n : Int} (h : 10 ≤ n) : numB (n / 10) ++ numB (n % 10) = numB n := by
  apply bytes_eq
  rw [ByteArray.data_append, Array.toList_append, numB_list, numB_list, numB_list]
  unfold itoa
  rw [if_neg (by omega), if_neg (by omega), if_neg (by omega)]
  conv => rhs; rw [decDigits, dif_neg (by omega)]
  have e1 : (n / 10).toNat = n.toNat / 10 := by omega
  have e2 : (n % 10).toNat = n.toNat % 10 := by omega
  rw [e1, e2]
  congr 1
  rw [decDigits, dif_pos (by omega)]
theorem numB_neg {n m : Int} (h : n ≤ -10) (hq : m = -((-n) / 10)) : numB m ++ numB ((-n) % 10) = numB n := by
  subst hq
  apply bytes_eq
  rw [ByteArray.data_append, Array.toList_append, numB_list, numB_list, numB_list]
  unfold itoa
  rw [if_pos (by omega), if_neg (by omega), if_pos (by omega)]
  have e1 : (-(-n / 10)).natAbs = n.natAbs / 10 := by omega
  have e2 : ((-n) % 10).toNat = n.natAbs % 10 := by omega
  rw [e1, e2]
  conv => rhs; rw [decDigits, dif_neg (by omega)]
  rw [List.cons_append]
  congr 2
  rw [decDigits, dif_pos (by omega)]
theorem numB_minus {n : Int} (h : n < 0) : (⟨#[45]⟩ : ByteArray) ++ numB (-n) = numB n := by
  apply bytes_eq
  rw [ByteArray.data_append, Array.toList_append, numB_list, numB_list]
  unfold itoa
  rw [if_neg (by omega), if_pos h]
  have e1 : (-n).toNat = n.natAbs := by omega
  rw [e1]
  rfl
/-! ### The reference's text -/
theorem join_snoc (xs : List (List UInt8)) (y sep : List UInt8) (h : xs ≠ []) : join (xs ++ [y]) sep = join xs sep ++ (sep ++ y) := by
  induction xs with
  | nil => exact absurd rfl h
  | cons a t ih =>
    cases t with
    | nil => simp [join, List.intercalate]
    | cons b t =>
      have e : ∀ l : List (List UInt8), join (a :: b :: l) sep = a ++ (sep ++ join (b :: l) sep) := fun l => by simp [join, List.intercalate]
      have := ih (by simp)
      rw [List.cons_append] at this
      rw [List.cons_append, List.cons_append, e, this, e]
      simp
def txB (zs : List Int) (k : Nat) : ByteArray := ⟨(join ((zs.take k).map itoa) [32]).toArray⟩
theorem txB_one {zs : List Int} {z : Int} (h : 0 < zs.length) (hz : zs[0]?.getD 0 = z) : numB z = txB zs 1 := by
  cases zs with
  | nil => simp at h
  | cons a t =>
    simp at hz
    subst hz
    unfold txB
    rw [List.take_succ_cons, List.take_zero, List.map_cons, List.map_nil, join_one]
    rfl
theorem txB_snoc {zs : List Int} {k : Nat} {z : Int} (h1 : 1 ≤ k) (hk : k < zs.length) (hz : zs[k]?.getD 0 = z) : txB zs k ++ ((⟨#[32]⟩ : ByteArray) ++ numB z) = txB zs (k + 1) := by
  apply bytes_eq
  have e3 : zs.take (k + 1) = zs.take k ++ [z] := by
    rw [List.take_add_one, List.getElem?_eq_getElem hk]
    rw [List.getElem?_eq_getElem hk] at hz
    simp only [Option.getD_some] at hz
    simp [hz]
  have hne : (zs.take k).map itoa ≠ [] := by
    intro e
    have := congrArg List.length e
    rw [List.length_map, List.length_take, List.length_nil] at this
    omega
  rw [ByteArray.data_append, ByteArray.data_append, Array.toList_append, Array.toList_append, numB_list]
  show join ((zs.take k).map itoa) [32] ++ ([32] ++ itoa z) = join ((zs.take (k + 1)).map itoa) [32]
  rw [e3, List.map_append, List.map_singleton, join_snoc _ _ _ hne]
theorem txB_size {zs : List Int} (h : I64 zs) (k : Nat) (h1 : 1 ≤ k) (hk : k ≤ zs.length) : (txB zs k).size ≤ 22 * zs.length + 1 := by
  have hp : 0 < (zs.take k).length := by rw [List.length_take]; omega
  have := text_len (zs := zs.take k) (fun z hz => h z (List.mem_of_mem_take hz))
  rw [textL_cons hp, List.length_take] at this
  rw [Lib.size_eq]
  show (join ((zs.take k).map itoa) [32]).length ≤ _
  omega
theorem txB_done {zs : List Int} (h : 0 < zs.length) : txB zs zs.length = ⟨(textL zs).toArray⟩ := by
  rw [textL_cons h]
  unfold txB
  rw [List.take_of_length_le (Nat.le_refl _)]
end Go.Proofs.YtnhibkkkpmaddaaDoor.M
