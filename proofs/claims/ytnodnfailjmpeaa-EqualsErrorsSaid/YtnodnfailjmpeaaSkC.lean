/-
  Several texts in one: TextM, SC7. No statement is proved here.
-/
import Derived.Test.YtnodnfailjmpeaaBaZ
import Derived.Lib.ItoaNum
import Derived.Lib.Join
import Derived.Test.YtnodnfailjmpeaaSkB
import Derived.Maps.OwnSet
import Derived.Maps.OwnOps
import Derived.WalkKit
namespace Go.Proofs.Ytnodnfailjmpeaa.M
open Go.Lib

/-- The text of a list. -/
def textL (zs : List Int) : List UInt8 := if zs = [] then [45] else join (zs.map itoa) [32]
theorem textL_nil : textL [] = [45] := rfl
theorem textL_cons {zs : List Int} (h : 0 < zs.length) : textL zs = join (zs.map itoa) [32] := by
  unfold textL
  rw [if_neg (by intro e; subst e; simp at h)]
def I64 (zs : List Int) : Prop := ∀ z ∈ zs, -9223372036854775808 ≤ z ∧ z ≤ 9223372036854775807
theorem I64.at_ {zs : List Int} (h : I64 zs) {k : Nat} (hk : k < zs.length) : -9223372036854775808 ≤ zs[k]?.getD 0 ∧ zs[k]?.getD 0 ≤ 9223372036854775807 := by
  rw [List.getElem?_eq_getElem hk]
  exact h _ (List.getElem_mem hk)
theorem dec_len : ∀ (k u : Nat), u < 10 ^ k → 1 ≤ k → (decDigits u).length ≤ k := by
  intro k
  induction k with
  | zero => intro u _ h; omega
  | succ k ih =>
    intro u hu _
    rw [decDigits]
    split
    · simp
    · rename_i h
      rw [Nat.pow_succ] at hu
      have h1 : 1 ≤ k := by
        rcases Nat.eq_zero_or_pos k with h0 | h0
        · subst h0; simp at hu; omega
        · exact h0
      have := ih (u / 10) (by omega) h1
      simp only [List.length_append, List.length_singleton]
      omega
theorem itoa_len {z : Int} (h1 : -9223372036854775808 ≤ z) (h2 : z ≤ 9223372036854775807) : (itoa z).length ≤ 21 := by
  unfold itoa
  split
  · have := dec_len 20 z.natAbs (by omega) (by omega)
    simp only [List.length_cons]
    omega
  · have := dec_len 20 z.toNat (by omega) (by omega)
    omega
theorem lens_le (l : List Int) (h : I64 l) : (lens (l.map itoa)) ≤ 21 * l.length := by
  induction l with
  | nil => simp [lens]
  | cons a l ih =>
    have h1 := ih (fun z hz => h z (by simp [hz]))
    have h2 := h a (by simp)
    have h3 := itoa_len h2.1 h2.2
    have e : lens ((a :: l).map itoa) = (itoa a).length + lens (l.map itoa) := by simp [lens]
    rw [e, List.length_cons]
    omega
theorem text_len {zs : List Int} (h : I64 zs) : (textL zs).length ≤ 22 * zs.length + 1 := by
  cases zs with
  | nil => simp [textL]
  | cons a l =>
    have := lens_le (a :: l) h
    rw [textL_cons (by simp)]
    rw [List.map_cons] at this ⊢
    rw [join_length]
    simp only [List.length_map, List.length_cons, List.length_nil] at this ⊢
    omega
/-- A number's text as a string. -/
def numB (z : Int) : ByteArray := ⟨(itoa z).toArray⟩
theorem numB_def {z : Int} : (⟨(itoa z).toArray⟩ : ByteArray) = numB z := rfl
/-- The state of Text's loop. -/
def Tx (zs : List Int) (k : Nat) (ss : List ByteArray) : Prop := ss = (zs.take k).map numB ++ List.replicate (zs.length - k) ⟨#[]⟩
theorem Tx.start (zs : List Int) : Tx zs 0 (List.replicate zs.length ⟨#[]⟩) := by simp [Tx]
theorem Tx.len {zs : List Int} {k : Nat} {ss : List ByteArray} (h : Tx zs k ss) (hk : k ≤ zs.length) : ss.length = zs.length := by
  rw [h]
  simp
  omega
theorem Tx.step {zs : List Int} {k : Nat} {ss : List ByteArray} {z : Int} (h : Tx zs k ss) (hk : k < zs.length) (hz : zs[k]?.getD 0 = z) : Tx zs (k + 1) (ss.set k (numB z)) := by
  have e1 : List.replicate (zs.length - k) (⟨#[]⟩ : ByteArray) = ⟨#[]⟩ :: List.replicate (zs.length - (k + 1)) ⟨#[]⟩ := by
    rw [show zs.length - k = (zs.length - (k + 1)) + 1 by omega, List.replicate_succ]
  have hs : ∀ (p q : List ByteArray) (y v : ByteArray) (m : Nat), p.length = m → (p ++ y :: q).set m v = p ++ v :: q := fun p q y v m hm => by subst hm; simp
  have e3 : zs.take (k + 1) = zs.take k ++ [z] := by
    rw [List.take_add_one, List.getElem?_eq_getElem hk]
    rw [List.getElem?_eq_getElem hk] at hz
    simp only [Option.getD_some] at hz
    simp [hz]
  unfold Tx at h ⊢
  rw [h, e1, hs _ _ _ _ _ (by simp; omega), e3]
  simp
theorem Tx.done {zs : List Int} {ss : List ByteArray} (h : Tx zs zs.length ss) : ss = zs.map numB := by
  rw [h]
  simp
theorem numB_data (zs : List Int) : (zs.map numB).map (·.data.toList) = zs.map itoa := by
  simp [numB, Function.comp_def]
end Go.Proofs.Ytnodnfailjmpeaa.M

namespace Go.Proofs.Ytnodnfailjmpeaa
open Go.RowKit Go.Maps

theorem lawI7 : Keyed Try.prog 3 := int_keyed Try.underlying3
theorem zeroI7 (w : World) : (zeroValue 3).run Try.prog w = .ok (.int .i64 0) w := by kernel_rfl
theorem wf_i64_7 {z : Int} (h1 : -9223372036854775808 ≤ z) (h2 : z ≤ 9223372036854775807) : (Lit.int .i64 z).wf = true := WalkArith.wf_i64 ⟨h1, h2⟩
theorem keyI7 {z : Int} (h1 : -9223372036854775808 ≤ z) (h2 : z ≤ 9223372036854775807) : keyOf Try.prog 3 (.int .i64 z) = some (.int .i64 z) := keyOf_int_mk Try.underlying3 (wf_i64_7 h1 h2)
/-- The map of Of after a list: each value with its number. -/
structure MpI (D : DataW Unit) (l : List Int) : Prop where
  has : ∀ z, Maps.has D (.int .i64 z) = decide (z ∈ l)
  at_ : ∀ z, z ∈ l → D.atKey (.int .i64 z) (.lit (.int .i64 0)) = .lit (.int .i64 (M.nu l z))
  size : Maps.size D = M.cnt l
theorem MpI.start : MpI (.map []) [] := ⟨fun z => rfl, fun z h => (by cases h), rfl⟩
theorem MpI.old {D : DataW Unit} {l : List Int} {z : Int} (h : MpI D l) (hz : z ∈ l) : MpI D (l ++ [z]) := by
  refine ⟨fun y => ?_, fun y hy => ?_, by rw [h.size, M.cnt_old hz]⟩
  · rw [h.has]
    by_cases e : y = z
    · subst e; simp [hz]
    · simp [e]
  · have : y ∈ l := by
      rcases List.mem_append.1 hy with h1 | h1
      · exact h1
      · rw [List.mem_singleton.1 h1]; exact hz
    rw [h.at_ y this, M.nu_stays this]
theorem MpI.new {D : DataW Unit} {l : List Int} {z : Int} (h : MpI D l) (ht : Tidy D) (hz : ¬ z ∈ l) : MpI (D.put (.int .i64 z) (.lit (.int .i64 (M.cnt l)))) (l ++ [z]) := by
  have hne : ∀ y : Int, y ≠ z → (Lit.int .i64 y) ≠ .int .i64 z := fun y hy e => hy (by injection e)
  refine ⟨fun y => ?_, fun y hy => ?_, ?_⟩
  · by_cases e : y = z
    · subst e
      rw [has_put_same ht.isMap (show WideAt.IsKeyLit (.int .i64 y) from trivial)]
      simp
    · rw [has_put_other (hne y e), h.has]
      simp [e]
  · by_cases e : y = z
    · subst e
      rw [atKey_put_same ht.isMap (show WideAt.IsKeyLit (.int .i64 y) from trivial), M.nu_new hz]
    · have : y ∈ l := by
        rcases List.mem_append.1 hy with h1 | h1
        · exact h1
        · exact absurd (List.mem_singleton.1 h1) e
      rw [atKey_put_other (hne y e), h.at_ y this, M.nu_stays this]
  · have hs : Maps.has D (.int .i64 z) = false := by rw [h.has]; simp [hz]
    rw [size_put ht, hs, M.cnt_new hz]
    simp [h.size]
theorem MpI.got {D : DataW Unit} {l : List Int} {z c : Int} (h : MpI D l) (hz : z ∈ l) (hat : D.atKey (.int .i64 z) (.lit (.int .i64 0)) = .lit (.int .i64 c)) : c = M.nu l z := by
  rw [h.at_ z hz] at hat
  injection hat with hat
  injection hat with _ hat
  exact hat.symm
/-- The state of the list of Of. -/
def OfS (zs : List Int) (k : Nat) (cur : List Int) : Prop := cur = M.ofL (zs.take k) ++ List.replicate (zs.length - k) 0
theorem OfS.start (zs : List Int) : OfS zs 0 (List.replicate zs.length 0) := by simp [OfS, M.ofL_nil]
theorem OfS.len {zs cur : List Int} {k : Nat} (h : OfS zs k cur) (hk : k ≤ zs.length) : cur.length = zs.length := by
  rw [h, List.length_append, M.ofL_len, List.length_take, List.length_replicate]
  omega
theorem OfS.step {zs cur : List Int} {k : Nat} {c : Int} (h : OfS zs k cur) (hk : k < zs.length) (hc : M.ofL (zs.take (k + 1)) = M.ofL (zs.take k) ++ [c]) : OfS zs (k + 1) (cur.set k c) := by
  have hs : ∀ (p q : List Int) (y v : Int) (m : Nat), p.length = m → (p ++ y :: q).set m v = p ++ v :: q := fun p q y v m hm => by subst hm; simp
  unfold OfS at h ⊢
  rw [h, show zs.length - k = (zs.length - (k + 1)) + 1 by omega, List.replicate_succ, hs _ _ _ _ _ (by rw [M.ofL_len, List.length_take]; omega), hc]
  simp
theorem OfS.done {zs cur : List Int} (h : OfS zs zs.length cur) : cur = M.ofL zs := by
  rw [h]; simp
/-- A block that is known whole, as a row of the call's own. -/
theorem Blk7.own {w : World} {g B : Nat} {cs : List Int} {n : Nat} (h : Blk7 w g cs) (hB : B ≤ g) (hn : cs.length = n) (hm : n ≤ maxLen) : w.ownsRow B 3 1 (.slice (some ⟨g, 0, none⟩) n n) n (ints cs) :=
  ⟨by rw [ints_len]; omega, .inr ⟨g, n, _, rfl, hB, h, Nat.le_refl _, hm, by simp [ints_len, hn], by rw [List.take_of_length_le (by simp [ints_len, hn])]⟩⟩
theorem own_grown {w : World} {B g n c : Nat} {xs : List Int} (h : w.ownsRow B 3 1 (.slice (some ⟨g, 0, none⟩) n c) n (ints xs)) (k : Nat) (z : Int) : w.grownBy (w.setCell ⟨g, k, none⟩ (.int .i64 z)) (some g) := (h.stored k (.int .i64 z)).2

/-- The partition of a list that is not too long; what is too long is refused. -/
def ofV (zs : List Int) : List Int := if 256 < zs.length then [] else M.ofL zs
def ofE (zs : List Int) : Int := if 256 < zs.length then 3 else 0
end Go.Proofs.Ytnodnfailjmpeaa
