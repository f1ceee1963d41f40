/-
  Contracts of layer 10 where an error is, and where none is. No statement is proved here.
-/
import Derived.Test.YtiamkkgnjobljaaEb3
import Derived.Test.YtiamkkgnjobljaaRbZ
namespace Go.Proofs.Ytiamkkgnjobljaa
open Go.RowKit
open Mc (Ed Ma Wv)

/-- What the law's loop over the pairs has found. -/
def ErA (z : Int) (R : List (Int × Int)) (N n j : Nat) : Prop := z = 0 → ∀ (q : Nat) p, q < j → R[q]? = some p → inR N n p
def ErN (z : Int) (R : List (Int × Int)) (N n : Nat) : Prop := z = 1 → ¬ ∀ p ∈ R, inR N n p
theorem Mc.Val.rowsE {m : Ma} (v : Mc.Val m) : ∀ row ∈ m.r, row.length ≤ 1000000 := fun row h => by have := v.len row h; have := v.i1; omega
section
variable (a b : Ma) (ai ao bi bo : Int) (A B : Option Addr) (n c n2 c2 : Nat) (w : World) (Z : Int)
variable (h1 : a.i = ai) (h2 : a.o = ao) (h3 : b.i = bi) (h4 : b.o = bo) (hra : RdR w A a.r) (hn : a.r.length = n) (hnb : n ≤ 1000000) (hrl : ∀ row ∈ a.r, row.length ≤ 1000000) (hrb : RdR w B b.r) (hn2 : b.r.length = n2) (hnb2 : n2 ≤ 1000000) (hrl2 : ∀ row ∈ b.r, row.length ≤ 1000000)
include h1 h2 h3 h4 hra hn hnb hrl hrb hn2 hnb2 hrl2
theorem dif_Z (hE : ech a b = Z) (hZ : Z ≠ 0) : Calls Try.prog 22 #[.agg #[.int .i64 ai, .int .i64 ao, .slice A n c], .agg #[.int .i64 bi, .int .i64 bo, .slice B n2 c2]] w fun e w' => ∃ X, e = .returned (.tuple #[.slice X 0 0, .bool false, .int .i64 Z]) ∧ Below w.heap.size w w' := by
  subst h1 h2 h3 h4
  refine (ediffer_any a b A B n c n2 c2 w hra hn hnb hrl hrb hn2 hnb2 hrl2).mono ?_
  rintro e w' ⟨hB, X, k, ws, is, z, rfl, hr, hk, hz, h⟩
  rw [hE] at hz
  subst hz
  rcases h with ⟨_, h0, _⟩ | ⟨rfl, rfl, _⟩
  · exact absurd h0 hZ
  · subst hk
    exact ⟨X, rfl, hB⟩
theorem dif_0 (hE : ech a b = 0) : Calls Try.prog 22 #[.agg #[.int .i64 ai, .int .i64 ao, .slice A n c], .agg #[.int .i64 bi, .int .i64 bo, .slice B n2 c2]] w fun e w' => ∃ X k is, e = .returned (.tuple #[.slice X k k, .bool is, .int .i64 0]) ∧ Below w.heap.size w w' := by
  subst h1 h2 h3 h4
  refine (ediffer_any a b A B n c n2 c2 w hra hn hnb hrl hrb hn2 hnb2 hrl2).mono ?_
  rintro e w' ⟨hB, X, k, ws, is, z, rfl, hr, hk, hz, h⟩
  rw [hE] at hz
  subst hz
  exact ⟨X, k, is, rfl, hB⟩
theorem equ_Z (hE : ech a b = Z) (hZ : Z ≠ 0) : Calls Try.prog 15 #[.agg #[.int .i64 ai, .int .i64 ao, .slice A n c], .agg #[.int .i64 bi, .int .i64 bo, .slice B n2 c2]] w fun e w' => e = .returned (.tuple #[.bool false, .int .i64 Z]) ∧ Below w.heap.size w w' := by
  subst h1 h2 h3 h4
  refine (eequal_any a b A B n c n2 c2 w hra hn hnb hrl hrb hn2 hnb2 hrl2).mono ?_
  rintro e w' ⟨hB, is, z, rfl, hz, h, _⟩
  rw [hE] at hz
  subst hz
  obtain rfl := h hZ
  exact ⟨rfl, hB⟩
def EqZ (w : World) (e : Ending) (w' : World) : Prop := ∃ is, e = .returned (.tuple #[.bool is, .int .i64 0]) ∧ Below w.heap.size w w'
theorem equ_0 (hE : ech a b = 0) : Calls Try.prog 15 #[.agg #[.int .i64 ai, .int .i64 ao, .slice A n c], .agg #[.int .i64 bi, .int .i64 bo, .slice B n2 c2]] w (EqZ w) := by
  subst h1 h2 h3 h4
  refine (eequal_any a b A B n c n2 c2 w hra hn hnb hrl hrb hn2 hnb2 hrl2).mono ?_
  rintro e w' ⟨hB, is, z, rfl, hz, _⟩
  rw [hE] at hz
  subst hz
  exact ⟨is, rfl, hB⟩
theorem win_N (hE : ech a b = Z) (zw : Int) (hw : (if Z ≠ 0 then Z else 1) = zw) : Calls Try.prog 54 #[.agg #[.int .i64 ai, .int .i64 ao, .slice A n c], .agg #[.int .i64 bi, .int .i64 bo, .slice B n2 c2], .int .i64 (-1)] w fun e w' => e = .returned (.tuple #[.bool false, .int .i64 zw]) ∧ Below w.heap.size w w' := by
  subst h1 h2 h3 h4
  refine (ewithin_any a b A B n c n2 c2 (-1) w hra hn hnb hrl hrb hn2 hnb2 hrl2).mono ?_
  rintro e w' ⟨hB, is, z, rfl, hz, h, _⟩
  rw [hE, if_pos (show (-1 : Int) < 0 by decide)] at hz
  have hz0 : z ≠ 0 := by
    rw [hz]
    split
    · assumption
    · decide
  obtain rfl := h hz0
  rw [hw] at hz
  rw [hz]
  exact ⟨rfl, hB⟩
theorem rel_Z (hE : ech a b = Z) (hZ : Z ≠ 0) : Calls Try.prog 53 #[.agg #[.int .i64 ai, .int .i64 ao, .slice A n c], .agg #[.int .i64 bi, .int .i64 bo, .slice B n2 c2]] w fun e w' => e = .returned (.tuple #[.slice none 0 0, .bool false, .int .i64 Z]) ∧ Below w.heap.size w w' := by
  subst h1 h2 h3 h4
  refine (erelate_any a b A B n c n2 c2 w hra hn hnb hrl hrb hn2 hnb2 hrl2).mono ?_
  rintro e w' ⟨hB, X, k, is, z, rfl, hz, h⟩
  rw [hE] at hz
  subst hz
  rcases h with ⟨_, h0, _⟩ | ⟨rfl, rfl, rfl, _⟩
  · exact absurd h0 hZ
  · exact ⟨rfl, hB⟩
theorem rel_0 (hE : ech a b = 0) : Calls Try.prog 53 #[.agg #[.int .i64 ai, .int .i64 ao, .slice A n c], .agg #[.int .i64 bi, .int .i64 bo, .slice B n2 c2]] w fun e w' => ∃ X k is, e = .returned (.tuple #[.slice X k k, .bool is, .int .i64 0]) ∧ Below w.heap.size w w' := by
  subst h1 h2 h3 h4
  refine (erelate_any a b A B n c n2 c2 w hra hn hnb hrl hrb hn2 hnb2 hrl2).mono ?_
  rintro e w' ⟨hB, X, k, is, z, rfl, hz, h⟩
  rw [hE] at hz
  subst hz
  exact ⟨X, k, is, rfl, hB⟩
theorem cre_Z (P : Option Addr) (KR cP : Nat) (R : List (Int × Int)) (hp : RdP w P R) (hKR : R.length = KR) (hKb : KR ≤ 1000000) (hE : pck a b R = Z) (hZ : Z ≠ 0) : Calls Try.prog 23 #[.agg #[.int .i64 ai, .int .i64 ao, .slice A n c], .agg #[.int .i64 bi, .int .i64 bo, .slice B n2 c2], .slice P KR cP] w fun e w' => e = .returned (.tuple #[.bool false, .int .i64 Z]) ∧ Below w.heap.size w w' := by
  subst h1 h2 h3 h4
  refine (checkRel_any a b A B P n c n2 c2 KR cP R w hra hn hnb hrl hrb hn2 hnb2 hrl2 hp hKR hKb).mono ?_
  rintro e w' ⟨hB, is, z, rfl, hz, h, _⟩
  rw [hE] at hz
  subst hz
  obtain rfl := h hZ
  exact ⟨rfl, hB⟩
theorem cre_0 (P : Option Addr) (KR cP : Nat) (R : List (Int × Int)) (hp : RdP w P R) (hKR : R.length = KR) (hKb : KR ≤ 1000000) (hE : pck a b R = 0) : Calls Try.prog 23 #[.agg #[.int .i64 ai, .int .i64 ao, .slice A n c], .agg #[.int .i64 bi, .int .i64 bo, .slice B n2 c2], .slice P KR cP] w (EqZ w) := by
  subst h1 h2 h3 h4
  refine (checkRel_any a b A B P n c n2 c2 KR cP R w hra hn hnb hrl hrb hn2 hnb2 hrl2 hp hKR hKb).mono ?_
  rintro e w' ⟨hB, is, z, rfl, hz, _⟩
  rw [hE] at hz
  subst hz
  exact ⟨is, rfl, hB⟩
end
end Go.Proofs.Ytiamkkgnjobljaa
