/-
  What the reference's Differ finds, in the words of chapter 10. No statement is proved here.
-/
import Derived.Test.YtomgofgbfdcmhaaEc3
namespace Go.Proofs.Ytomgofgbfdcmhaa
open Go.RowKit
open Mc (Ed Ma Wv)
namespace Mc
section
variable {a b : Ma} (va : Val a) (vb : Val b) (hi : a.i = b.i) (hl : a.r.length + b.r.length ≤ 64)
include va vb hi hl
theorem sep_ldw (h : sl (bes a b) 0 a.r.length ≠ 0) : Ldw a b (sepw (bes a b) 0 a.r.length) := by
  have v := bes_val va vb hi hl
  have h0 := va.r0
  have h1 := vb.r0
  have hs : 0 < (bes a b).r.length := by rw [bes_len]; omega
  have ht : a.r.length < (bes a b).r.length := by rw [bes_len]; omega
  have hw : Wd a (sepw (bes a b) 0 a.r.length) := sw_wd v _ 0 a.r.length hs ht rfl
  refine ⟨hw, fun e => sw_sep v hs ht h ((bes_sep va vb hi hw).2 e), fun u hu hne => ?_⟩
  exact (sw_le v hs ht (w := u) hu (fun e => hne ((bes_sep va vb hi hu).1 e))).2
theorem sl_sim (h : sl (bes a b) 0 a.r.length = 0) : Sim a b := by
  have v := bes_val va vb hi hl
  have h0 := va.r0
  have h1 := vb.r0
  have hs : 0 < (bes a b).r.length := by rw [bes_len]; omega
  have ht : a.r.length < (bes a b).r.length := by rw [bes_len]; omega
  refine ⟨hi, fun w hw => Classical.byContradiction fun hne => ?_⟩
  exact (sw_le v hs ht (w := w) hw (fun e => hne ((bes_sep va vb hi hw).1 e))).1 h
end
end Mc
/-- The reference's Differ, in the words of chapter 10. -/
def DfrQ (w : World) (a b : Ma) (e : Ending) (w' : World) : Prop := ∃ (X : Option Addr) (k d : Nat) (is : Bool) (ws : List Int), e = .returned (.tuple #[.slice X k d, .bool is]) ∧ Rd w' X ws ∧ ws.length = k ∧ Below w.heap.size w w' ∧ ((is = true ∧ Mc.Ldw a b ws) ∨ (is = false ∧ ws = [] ∧ Mc.Sim a b))
theorem rdiffer_at (a b : Ma) (i : Nat) (ao bo : Int) (A B : Option Addr) (n c n2 c2 : Nat) (w : World) (va : Mc.Val a) (vb : Mc.Val b) (hia : a.i = i) (hib : b.i = i) (hra : RdR w A a.r) (hn : a.r.length = n) (hrb : RdR w B b.r) (hn2 : b.r.length = n2) (hl : n + n2 ≤ 64) :
    Calls Try.prog 18 #[.agg #[.int .i64 i, .int .i64 ao, .slice A n c], .agg #[.int .i64 i, .int .i64 bo, .slice B n2 c2]] w (DfrQ w a b) := by
  refine (rdiffer_any a b i ao bo A B n c n2 c2 w va vb hia hib hra hn hrb hn2 hl).mono ?_
  rintro e w' ⟨X, k, d, is, rfl, hr, hk, his, hb⟩
  rw [← hn] at hr hk his
  have hii : a.i = b.i := by rw [hia, hib]
  have hll : a.r.length + b.r.length ≤ 64 := by rw [hn, hn2]; exact hl
  refine ⟨X, k, d, is, _, rfl, hr, hk, hb, ?_⟩
  by_cases h0 : Mc.sl (Mc.bes a b) 0 a.r.length = 0
  · have hf : is = false := by
      cases is with
      | false => rfl
      | true => exact absurd h0 (his.1 rfl)
    exact Or.inr ⟨hf, List.eq_nil_of_length_eq_zero (by rw [Mc.sepw_len]; exact h0), Mc.sl_sim va vb hii hll h0⟩
  · exact Or.inl ⟨his.2 h0, Mc.sep_ldw va vb hii hll h0⟩
end Go.Proofs.Ytomgofgbfdcmhaa
