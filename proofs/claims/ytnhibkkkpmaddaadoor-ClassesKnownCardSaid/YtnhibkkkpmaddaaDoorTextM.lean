/-
  The plain mathematics of texts: lists of bytes, no program. No statement is proved here.
-/
import Derived.Test.YtnhibkkkpmaddaaDoorMath
import Derived.Lib.ItoaNum
import Derived.Lib.Join
namespace Go.Proofs.YtnhibkkkpmaddaaDoor.M
open Go.Lib

/-- The text of a list. -/
def textL (zs : List Int) : List UInt8 := if zs = [] then [45] else join (zs.map itoa) [32]
theorem textL_nil : textL [] = [45] := rfl
theorem textL_cons {zs : List Int} (h : 0 < zs.length) : textL zs = join (zs.map itoa) [32] := by
  unfold textL
  rw [if_neg (by intro e; subst e; simp at h)]
def I64 (zs : List Int) : Prop := ∀ z ∈ zs, -9223372036854775808 ≤ z ∧ z ≤ 9223372036854775807
theorem I64.at_ {zs : List Int} (h : I64 zs) {k : Nat} (hk : k < zs.length) : -9223372036854775808 ≤ zs[k]?.getD 0 ∧ zs[k]?.getD 0 ≤ 9223372036854775807 := by
  rw [List.getElem?_eq_getElem hk]
  exact h _ (List.getElem_mem hk)
theorem dec_len : ∀ (k u : Nat), u < 10 ^ k → 1 ≤ k → (decDigits u).length ≤ k := by
  intro k
  induction k with
  | zero => intro u _ h; omega
  | succ k ih =>
    intro u hu _
    rw [decDigits]
    split
    · simp
    · rename_i h
      rw [Nat.pow_succ] at hu
      have h1 : 1 ≤ k := by
        rcases Nat.eq_zero_or_pos k with h0 | h0
        · subst h0; simp at hu; omega
        · exact h0
      have := ih (u / 10) (by omega) h1
      simp only [List.length_append, List.length_singleton]
      omega
theorem itoa_len {z : Int} (h1 : -9223372036854775808 ≤ z) (h2 : z ≤ 9223372036854775807) : (itoa z).length ≤ 21 := by
  unfold itoa
  split
  · have := dec_len 20 z.natAbs (by omega) (by omega)
    simp only [List.length_cons]
    omega
  · have := dec_len 20 z.toNat (by omega) (by omega)
    omega
theorem lens_le (l : List Int) (h : I64 l) : (lens (l.map itoa)) ≤ 21 * l.length := by
  induction l with
  | nil => simp [lens]
  | cons a l ih =>
    have h1 := ih (fun z hz => h z (by simp [hz]))
    have h2 := h a (by simp)
    have h3 := itoa_len h2.1 h2.2
    have e : lens ((a :: l).map itoa) = (itoa a).length + lens (l.map itoa) := by simp [lens]
    rw [e, List.length_cons]
    omega
theorem text_len {zs : List Int} (h : I64 zs) : (textL zs).length ≤ 22 * zs.length + 1 := by
  cases zs with
  | nil => simp [textL]
  | cons a l =>
    have := lens_le (a :: l) h
    rw [textL_cons (by simp)]
    rw [List.map_cons] at this ⊢
    rw [join_length]
    simp only [List.length_map, List.length_cons, List.length_nil] at this ⊢
    omega
/-- A number's text as a string. -/
def numB (z : Int) : ByteArray := ⟨(itoa z).toArray⟩
theorem numB_def {z : Int} : (⟨(itoa z).toArray⟩ : ByteArray) = numB z := rfl
/-- The state of Text's loop. -/
def Tx (zs : List Int) (k : Nat) (ss : List ByteArray) : Prop := ss = (zs.take k).map numB ++ List.replicate (zs.length - k) ⟨#[]⟩
theorem Tx.start (zs : List Int) : Tx zs 0 (List.replicate zs.length ⟨#[]⟩) := by simp [Tx]
theorem Tx.len {zs : List Int} {k : Nat} {ss : List ByteArray} (h : Tx zs k ss) (hk : k ≤ zs.length) : ss.length = zs.length := by
  rw [h]
  simp
  omega
theorem Tx.step {zs : List Int} {k : Nat} {ss : List ByteArray} {z : Int} (h : Tx zs k ss) (hk : k < zs.length) (hz : zs[k]?.getD 0 = z) : Tx zs (k + 1) (ss.set k (numB z)) := by
  have e1 : List.replicate (zs.length - k) (⟨#[]⟩ : ByteArray) = ⟨#[]⟩ :: List.replicate (zs.length - (k + 1)) ⟨#[]⟩ := by
    rw [show zs.length - k = (zs.length - (k + 1)) + 1 by omega, List.replicate_succ]
  have hs : ∀ (p q : List ByteArray) (y v : ByteArray) (m : Nat), p.length = m → (p ++ y :: q).set m v = p ++ v :: q := fun p q y v m hm => by subst hm; simp
  have e3 : zs.take (k + 1) = zs.take k ++ [z] := by
    rw [List.take_add_one, List.getElem?_eq_getElem hk]
    rw [List.getElem?_eq_getElem hk] at hz
    simp only [Option.getD_some] at hz
    simp [hz]
  unfold Tx at h ⊢
  rw [h, e1, hs _ _ _ _ _ (by simp; omega), e3]
  simp
theorem Tx.done {zs : List Int} {ss : List ByteArray} (h : Tx zs zs.length ss) : ss = zs.map numB := by
  rw [h]
  simp
theorem numB_data (zs : List Int) : (zs.map numB).map (·.data.toList) = zs.map itoa := by
  simp [numB, Function.comp_def]
end Go.Proofs.YtnhibkkkpmaddaaDoor.M
