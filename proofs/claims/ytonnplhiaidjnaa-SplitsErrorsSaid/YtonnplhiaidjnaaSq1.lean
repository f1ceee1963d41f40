/-
  Any two states, the lesser one first, ascending, as a list; the iterator over them. No statement is proved here.
-/
import Derived.Test.YtonnplhiaidjnaaSMdZ
import Derived.Test.YtonnplhiaidjnaaSpM
namespace Go.Proofs.Ytonnplhiaidjnaa
open Go.RowKit
open Mc (Ed Ma)

namespace Mc
def rowP (n s : Nat) : List (Nat × Nat) := (List.range (n - (s + 1))).map fun j => (s, s + 1 + j)
def prsTo (n : Nat) : Nat → List (Nat × Nat)
  | 0 => []
  | s + 1 => prsTo n s ++ rowP n s
/-- Any two of n states, the lesser one first, ascending. -/
def prs (n : Nat) : List (Nat × Nat) := prsTo n n
/-- How many pairs stand before those of a state. -/
def posP (n s : Nat) : Nat := (prsTo n s).length
theorem rowP_len (n s : Nat) : (rowP n s).length = n - (s + 1) := by simp [rowP]
theorem posP_next (n s : Nat) : posP n (s + 1) = posP n s + (n - (s + 1)) := by simp [posP, prsTo, rowP_len]
theorem posP_all (n : Nat) : posP n n = (prs n).length := rfl
theorem prsTo_le (n : Nat) {a : Nat} : ∀ (k : Nat), ∃ l, prsTo n (a + k) = prsTo n a ++ l
  | 0 => ⟨[], by simp⟩
  | k + 1 => by
    obtain ⟨l, hl⟩ := prsTo_le n (a := a) k
    exact ⟨l ++ rowP n (a + k), by rw [show a + (k + 1) = (a + k) + 1 by omega, prsTo, hl, List.append_assoc]⟩
theorem prs_at {n s j : Nat} (h : s + 1 + j < n) : (prs n)[posP n s + j]? = some (s, s + 1 + j) := by
  obtain ⟨l, hl⟩ := prsTo_le n (a := s + 1) (n - (s + 1))
  rw [show s + 1 + (n - (s + 1)) = n by omega] at hl
  unfold prs posP
  rw [hl, prsTo, List.append_assoc, List.getElem?_append_right (by omega), Nat.add_sub_cancel_left, List.getElem?_append_left (by rw [rowP_len]; omega)]
  unfold rowP
  rw [List.getElem?_map, List.getElem?_range (by omega)]
  rfl
theorem prsTo_mem {n a b : Nat} : ∀ (k : Nat), (a, b) ∈ prsTo n k ↔ a < k ∧ a < b ∧ b < n
  | 0 => by simp [prsTo]
  | k + 1 => by
    rw [prsTo, List.mem_append, prsTo_mem k]
    unfold rowP
    simp only [List.mem_map, List.mem_range, Prod.mk.injEq]
    constructor
    · rintro (⟨h1, h2, h3⟩ | ⟨j, h1, rfl, rfl⟩)
      · exact ⟨by omega, h2, h3⟩
      · exact ⟨by omega, by omega, by omega⟩
    · rintro ⟨h1, h2, h3⟩
      by_cases e : a = k
      · subst e; exact Or.inr ⟨b - (a + 1), by omega, rfl, by omega⟩
      · exact Or.inl ⟨by omega, h2, h3⟩
theorem prs_mem {n a b : Nat} : (a, b) ∈ prs n ↔ a < b ∧ b < n := by
  unfold prs
  rw [prsTo_mem]
  omega
theorem prs_lt {n k : Nat} {p : Nat × Nat} (h : (prs n)[k]? = some p) : p.1 < p.2 ∧ p.2 < n := prs_mem.1 (List.mem_of_getElem? h)
/-- The pairs that are done, the greater state first too. -/
def dn (n k : Nat) (a b : Nat) : Prop := (a, b) ∈ (prs n).take k ∨ (b, a) ∈ (prs n).take k
theorem dn_zero (n : Nat) (a b : Nat) : dn n 0 a b ↔ False := by simp [dn]
theorem dn_comm {n k a b : Nat} (h : dn n k a b) : dn n k b a := h.symm
theorem dn_step {n k : Nat} {p : Nat × Nat} (h : (prs n)[k]? = some p) : dn n (k + 1) = plus (dn n k) p.1 p.2 := by
  funext a b
  unfold dn plus
  rw [List.take_add_one, h]
  apply propext
  simp only [Option.toList_some, List.mem_append, List.mem_singleton, Prod.ext_iff]
  constructor
  · rintro ((h1 | h1) | (h1 | h1))
    · exact Or.inl (Or.inl h1)
    · exact Or.inr (Or.inl h1)
    · exact Or.inl (Or.inr h1)
    · exact Or.inr (Or.inr ⟨h1.2, h1.1⟩)
  · rintro ((h1 | h1) | h1 | h1)
    · exact Or.inl (Or.inl h1)
    · exact Or.inr (Or.inl h1)
    · exact Or.inl (Or.inr h1)
    · exact Or.inr (Or.inr ⟨h1.2, h1.1⟩)
theorem dn_all {n a b : Nat} (ha : a < n) (hb : b < n) (h : a ≠ b) : dn n (prs n).length a b := by
  unfold dn
  rw [List.take_length, prs_mem, prs_mem]
  omega
end Mc
/-- The values that are yielded for a pair. -/
def pv (p : Nat × Nat) : Array Value := #[.int .i64 p.1, .int .i64 p.2]

theorem pairs_any (n : Int) (w : World) :
    Calls Try.prog 69 #[.int .i64 n] w fun e w' => e = .returned (.func (.func 83) #[] #[.pointer (some ⟨w.heap.size, 0, none⟩)]) ∧ w' = w.alloc (.cells #[.int .i64 n] 3) := by
  go_enter Try.func69, Try.ntmps69
  go_wp2
  go_ret
  exact ⟨rfl, rfl⟩

set_option maxRecDepth 100000 in
set_option maxHeartbeats 1600000 in
theorem pairs1_gives (m c n : Nat) (D : Nat → Prop) (w : World) (hbx : Box w c (.int .i64 n)) (hDc : ¬ D c) (hnb : n ≤ 1000000) :
    Gives m 83 #[.pointer (some ⟨c, 0, none⟩)] ((Mc.prs n).map pv) D w := by
  intro l J Jx W hW hJ hJx hY hJ0
  have k0 : W.cell? ⟨c, 0, none⟩ = some (.int .i64 n) := (hW.cell (p := ⟨c, 0, none⟩) hbx.lt).trans hbx.1
  have hs0 : ∀ (wr : World), KC D W wr → wr.cell? ⟨c, 0, none⟩ = some (.int .i64 n) := fun wr hk => hk.cell hDc k0
  have JJ := Lib.hid hJ
  have JX := Lib.hid hJx
  have YY := Lib.hid hY
  have SS := Lib.hid hs0
  clear hJ hJx hY hs0 hW hbx hDc
  refine callsIn_of_wp Try.func83 rfl trivial ?_ rfl
  simp only [Try.ntmps83, List.size_toArray, List.length_cons, List.length_nil, Nat.reduceAdd, Nat.reduceSub, Array.replicate_succ, Array.replicate_zero, List.push_toArray, List.append_toArray, List.nil_append, List.cons_append]
  gi_wp2
  gi_loopw [6] (fun v wr => ∃ a : Nat, a ≤ n ∧ v = .int .i64 a ∧ J (Mc.posP n a) wr ∧ KC D W wr) (fun v _ => n - (intOf v).toNat)
  case atStart => exact ⟨0, Nat.zero_le _, rfl, hJ0, ⟨Nat.le_refl _, fun _ _ _ h _ => h⟩⟩
  case round =>
    obtain ⟨a, ha, rfl, hj, hk⟩ := hrel
    clear k0 hJ0
    by_cases hlt : a < n
    · have hlt' : (a : Int) < n := by omega
      have hc := SS.out wr hk
      gi_wp2
      gi_loopw [4] (fun v wr => ∃ j : Nat, a + 1 + j ≤ n ∧ v = .int .i64 ((a + 1 + j : Nat) : Int) ∧ J (Mc.posP n a + j) wr ∧ KC D W wr) (fun v _ => n - (intOf v).toNat)
      case atStart => exact ⟨0, by omega, by go_num, hj, hk⟩
      case round =>
        obtain ⟨j, hjq, rfl, hj2, hk2⟩ := hrel
        clear hj hk hc
        have hc := SS.out wr hk2
        by_cases hjl : a + 1 + j < n
        · have hjl' : decide (((a + 1 + j : Nat) : Int) < n) = true := decide_eq_true (by omega)
          have hat : Hid (((Mc.prs n).map pv)[Mc.posP n a + j]? = some (pv (a, a + 1 + j))) := by
            show _ = _
            rw [List.getElem?_map, Mc.prs_at hjl]; rfl
          obtain ⟨fn, tmps, assign, body, hyl, hR⟩ := YY.out _ _ _ hat.out hj2
          have hkA := Lib.hid hk2
          simp only [pv] at hyl
          obtain ⟨b, hb⟩ : ∃ b : Nat, a + 1 + j = b := ⟨_, rfl⟩
          rw [hb] at hyl hjl' hjl
          have HB := Lib.hid hb
          rw [hb]
          clear hk2 hj2 hb
          gi_wp2_with fail
          refine ⟨(fun h => by simp [Fence.wide] at h), hR.mono ?_⟩
          rintro e W3 (⟨rfl, hJ3, hk3⟩ | ⟨rfl, hJx3⟩)
          · clear hyl hR
            gi_wp2
            go_roundw
            case rel => exact ⟨j + 1, by have := HB.out; omega, by have := HB.out; subst this; go_num, hJ3, hkA.out.trans hk3⟩
            case measure => simp [intOf]; omega
          · clear hyl hR
            gi_wp2
            refine bodyPost_ret (results_none rfl _ _ _) rfl ?_
            exact ⟨⟨_, rfl⟩, .inr hJx3⟩
        · have hjl' : decide (((a + 1 + j : Nat) : Int) < n) = false := decide_eq_false (by omega)
          have hjp : J (Mc.posP n (a + 1)) wr := by
            rw [Mc.posP_next, show n - (a + 1) = j by omega]
            exact hj2
          have JP := Lib.hid hjp
          clear hjp hj2
          gi_wp2
          go_roundw
          case rel => exact ⟨a + 1, by omega, by go_num, JP.out, hk2⟩
          case measure => simp [intOf]; omega
    · have hlt' : ¬ (a : Int) < n := by omega
      have hJn : J (Mc.prs n).length wr := by
        have : a = n := by omega
        subst this
        rw [← Mc.posP_all]
        exact hj
      have JN := Lib.hid hJn
      clear hJn hj
      gi_wp2
      go_end0
      exact ⟨⟨_, rfl⟩, .inl JN.out⟩
end Go.Proofs.Ytonnplhiaidjnaa
