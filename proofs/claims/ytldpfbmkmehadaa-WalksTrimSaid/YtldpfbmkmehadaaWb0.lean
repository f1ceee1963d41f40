/-
  Contracts: nones, check, Clip, IsSorted. No statement is proved here.
-/
import Derived.Test.YtldpfbmkmehadaaWaZ
import Derived.Test.YtldpfbmkmehadaaSMdZ
import Derived.Test.YtldpfbmkmehadaaSWk4
namespace Go.Proofs.Ytldpfbmkmehadaa
open Go.RowKit
open Mc (Ed Ma Wv)

namespace Mc
/-- The states that are reached, in the order of their words; ascending. -/
def ord (m : Ma) : List Int := (wk m 0).map (·.1)
def asc (m : Ma) : List Int := (ord m).mergeSort fun x y => decide (x ≤ y)
/-- The error of a machine and some of its states. -/
def chkS (m : Ma) (l : List Int) : Int := if chk m ≠ 0 then chk m else if l.all (fun s => decide (0 ≤ s) && decide (s < m.r.length)) then 0 else 1
theorem chkS_nil (m : Ma) : chkS m [] = chk m := by
  unfold chkS
  split
  · rfl
  · rename_i h
    simp at h
    simp [h]
/-- Each number is not greater than the next one. -/
def Adj (l : List Int) : Prop := ∀ k a b, l[k]? = some a → l[k + 1]? = some b → a ≤ b
end Mc
/-- A slice's block begins with these numbers. -/
def BlkC (w : World) (g : Nat) (l : List Int) : Prop := ∃ cur, w.heap[g]? = some (.cells cur 3 (0, 0)) ∧ cur.toList.take l.length = ints l
section
variable {w w' : World} {g : Nat} {l : List Int}
theorem BlkC.rd (h : BlkC w g l) : Rd w (some ⟨g, 0, none⟩) l := fun _ => by
  obtain ⟨cur, h1, h2⟩ := h
  refine ⟨g, 0, rfl, heap_lt h1, fun k hk => ?_⟩
  rw [cell_of_row w g (0 + k) _ 3 (0, 0) h1, Nat.zero_add]
  have h3 : (cur.toList.take l.length)[k]? = (ints l)[k]? := by rw [h2]
  rw [List.getElem?_take_of_lt hk, ints_at hk] at h3
  rw [← Array.getElem?_toList]
  exact h3
theorem BlkC.below (h : BlkC w g l) (hb : Below w.heap.size w w') : BlkC w' g l := by
  obtain ⟨cur, h1, h2⟩ := h
  exact ⟨cur, (hb.block g (heap_lt h1)).trans h1, h2⟩
theorem BlkC.of_own {base n c : Nat} (h : w.ownsRow base 3 1 (.slice (some ⟨g, 0, none⟩) n c) n (ints l)) : BlkC w g l := by
  have hl := h.1
  rw [ints_len, Nat.mul_one] at hl
  rcases h.2 with ⟨e, _⟩ | ⟨g', cap, cur, e, _, hg, _, _, _, ht⟩
  · cases e
  · injection e with e
    injection e with e
    injection e with e
    subst e
    exact ⟨cur, hg, by rw [hl, ← ht, Nat.mul_one]⟩
end

set_option maxRecDepth 100000 in
set_option maxHeartbeats 1000000 in
theorem nones_any (k : Nat) (w : World) (hk : k ≤ 65536) :
    Calls Try.prog 42 #[.int .i64 k] w fun e w' => ∃ g, e = .returned (.slice (some ⟨g, 0, none⟩) k k) ∧ w.heap.size ≤ g ∧ Blk w' g (List.replicate k (-1)) ∧ Below w.heap.size w w' := by
  go_enter Try.func42, Try.ntmps42
  go_wp2_with (refine wpList_make_ints _ rfl _ _ rfl _ k rfl rfl rfl (by omega) ?_)
  intro w1 hB1 hb1
  have hB0 : Hid (Blk w1 w.heap.size (List.replicate 0 (-1) ++ List.replicate (k - 0) 0)) := hB1
  clear hB1
  go_wp2
  go_loopw [9] (fun v wr => ∃ j : Nat, j ≤ k ∧ v = .int .i64 j ∧ Hid (Blk wr w.heap.size (List.replicate j (-1) ++ List.replicate (k - j) 0)) ∧ Below w.heap.size w wr) (fun v _ => k - (intOf v).toNat)
  case atStart => exact ⟨0, Nat.zero_le _, rfl, hB0, hb1⟩
  case round =>
    obtain ⟨j, hj, rfl, hB, hbr⟩ := hrel
    clear hB0 hb1
    by_cases hlt : j < k
    · obtain ⟨c0, c1⟩ := hB.out.at_ (k := j) (by simp; omega)
      have HS : Hid (Blk (wr.setCell ⟨w.heap.size, j, none⟩ (.int .i64 (-1))) w.heap.size (List.replicate (j + 1) (-1) ++ List.replicate (k - (j + 1)) 0)) := by
        have h1 := hB.out.set_ j (-1)
        have e : (List.replicate j (-1 : Int) ++ List.replicate (k - j) 0).set j (-1) = List.replicate (j + 1) (-1) ++ List.replicate (k - (j + 1)) 0 := by
          rw [List.set_append_right _ _ (by simp), List.length_replicate, Nat.sub_self, show k - j = (k - (j + 1)) + 1 by omega, List.replicate_succ, List.set_cons_zero, List.replicate_succ', List.append_assoc]
          rfl
        rw [e] at h1
        exact h1
      have hbS : Below w.heap.size w (wr.setCell ⟨w.heap.size, j, none⟩ (.int .i64 (-1))) := hbr.setCell (by show w.heap.size ≤ w.heap.size; omega) _
      obtain ⟨z, hz⟩ : ∃ z, (List.replicate j (-1 : Int) ++ List.replicate (k - j) 0)[j]?.getD 0 = z := ⟨_, rfl⟩
      rw [hz] at c0
      clear hz
      go_wp2
      go_roundw
      case rel => exact ⟨j + 1, by omega, by go_num, HS, hbS⟩
      case measure => simp [intOf]; omega
    · obtain rfl : j = k := by omega
      have HF : Hid (Blk wr w.heap.size (List.replicate j (-1))) := by
        have := hB.out
        rw [Nat.sub_self, List.replicate_zero, List.append_nil] at this
        exact this
      go_wp2
      go_ret
      exact ⟨w.heap.size, rfl, Nat.le_refl _, HF.out, hbr⟩

theorem clip_any (A : Option Addr) (n c : Nat) (w : World) (h : n ≤ c) (hA : ∃ a, A = some a) :
    Calls Try.prog 57 #[.slice A n c] w fun e w' => e = .returned (.slice A n n) ∧ w' = w := by
  obtain ⟨a, rfl⟩ := hA
  go_enter Try.func57, Try.ntmps57
  go_wp2
  go_ret
  exact ⟨rfl, rfl⟩

theorem isnan_any (x : Int) (w : World) : Calls Try.prog 65 #[.int .i64 x] w fun e w' => e = .returned (.bool false) ∧ w' = w := by
  go_enter Try.func65, Try.ntmps65
  have h : (x != x) = false := by simp
  go_wp2
  go_ret
  exact ⟨rfl, rfl⟩
theorem less_int (x y : Int) (w : World) : Calls Try.prog 59 #[.int .i64 x, .int .i64 y] w fun e w' => e = .returned (.bool (decide (x < y))) ∧ w' = w := by
  go_enter Try.func59, Try.ntmps59
  go_wp2_with fail
  refine (isnan_any x w).mono ?_
  rintro e w' ⟨rfl, rfl⟩
  by_cases h : x < y
  all_goals
    go_wp2
    go_ret
    exact ⟨by simp [h], rfl⟩

set_option maxRecDepth 100000 in
set_option maxHeartbeats 1000000 in
theorem wcheck_any (i o : Int) (rs : List (List Ed)) (A : Option Addr) (n c : Nat) (S : Option Addr) (k d : Nat) (l : List Int) (w : World) (hr : RdR w A rs) (hn : rs.length = n) (hnb : n ≤ 1000000) (hrl : ∀ row ∈ rs, row.length ≤ 1000000) (hS : Rd w S l) (hk : l.length = k) (hkb : k ≤ 1000000) :
    Calls Try.prog 37 #[.agg #[.int .i64 i, .int .i64 o, .slice A n c], .slice S k d] w fun e w' => e = .returned (.int .i64 (Mc.chkS ⟨i, o, rs⟩ l)) ∧ Below w.heap.size w w' := by
  subst hn hk
  have RL := Lib.hid hrl
  clear hrl
  have hb0 : Below w.heap.size w (boxM w i o A rs.length c) := (Below.refl _ _).alloc (Nat.le_refl _) _
  have hr0 := hr.below hb0
  go_enter Try.func37, Try.ntmps37
  go_wp2_with fail
  refine (pcheck_any i o rs A rs.length c _ hr0 rfl hnb RL.out).mono ?_
  rintro e w1 ⟨rfl, hb1⟩
  have hB1 := below_next hb0 hb1
  have hM1 := (BxM.new w i o A rs.length c).mvB hb1
  obtain ⟨q0, q1, q2⟩ := hM1.cells
  have hS1 := hS.below hB1
  clear hb0 hb1 hr0
  by_cases hz : Mc.chk ⟨i, o, rs⟩ = 0
  · have hv : Hid (Mc.chkS ⟨i, o, rs⟩ l = if l.all (fun s => decide (0 ≤ s) && decide (s < rs.length)) then 0 else 1) := by
      show _ = _
      unfold Mc.chkS
      rw [if_neg (by rw [hz]; simp)]
    rw [hz]
    go_wp2
    go_loop [15] (fun v => ∃ j : Nat, j ≤ l.length ∧ v = .int .i64 j ∧ Hid ((l.take j).all (fun s => decide (0 ≤ s) && decide (s < rs.length)) = true)) (fun v => l.length - (intOf v).toNat)
    case atStart => exact ⟨0, Nat.zero_le _, rfl, by simp [Hid]⟩
    case round =>
      obtain ⟨j, hj, rfl, hA⟩ := hrel
      by_cases hlt : j < l.length
      · obtain ⟨b, off, z, rfl, hb, hc, hzz⟩ := hS1.at_ hlt
        have hzl : l[j]? = some z := by
          have := hzz.out
          rw [List.getElem?_eq_getElem hlt] at this ⊢
          exact congrArg some this
        by_cases h0 : z < 0
        · have hf : Hid (Mc.chkS ⟨i, o, rs⟩ l = 1) := by
            show _ = _
            rw [hv.out, Mc.all_hit hzl (by simp; omega)]
            rfl
          clear hzl
          go_wp2
          go_ret
          exact ⟨ret_int hf.out.symm, hB1⟩
        · by_cases h1 : (rs.length : Int) ≤ z
          · have hf : Hid (Mc.chkS ⟨i, o, rs⟩ l = 1) := by
              show _ = _
              rw [hv.out, Mc.all_hit hzl (by simp; omega)]
              rfl
            clear hzl
            go_wp2
            go_ret
            exact ⟨ret_int hf.out.symm, hB1⟩
          · have hgo := Lib.hid (Mc.all_snoc hzl hA.out (by simp; omega))
            clear hzl
            go_wp2
            go_round
            case rel => exact ⟨j + 1, by omega, by go_num, hgo⟩
            case measure => simp [intOf]; omega
      · have hf : Hid (Mc.chkS ⟨i, o, rs⟩ l = 0) := by
          show _ = _
          have := hA.out
          rw [List.take_of_length_le (by omega)] at this
          rw [hv.out, this]
          rfl
        go_wp2
        go_ret
        exact ⟨ret_int hf.out.symm, hB1⟩
  · have hzb : (Mc.chk ⟨i, o, rs⟩ == 0) = false := by rw [beq_eq_false_iff_ne]; exact hz
    have hv : Hid (Mc.chkS ⟨i, o, rs⟩ l = Mc.chk ⟨i, o, rs⟩) := by
      show _ = _
      unfold Mc.chkS
      rw [if_pos hz]
    obtain ⟨z, hzz⟩ : ∃ z, Mc.chk ⟨i, o, rs⟩ = z := ⟨_, rfl⟩
    rw [hzz] at hz hzb hv ⊢
    have HZ := Lib.hid hzz
    clear hzz
    have hzn : (z != 0) = true := by simpa using hz
    go_wp2
    go_ret
    exact ⟨ret_int hv.out.symm, hB1⟩

def SrtP (w : World) (l : List Int) (e : Ending) (w' : World) : Prop := ∃ b, e = .returned (.bool b) ∧ Hid (b = true ↔ Mc.Adj l) ∧ Below w.heap.size w w'
set_option maxRecDepth 100000 in
set_option maxHeartbeats 1000000 in
theorem sorted_any (A : Option Addr) (n c : Nat) (l : List Int) (w : World) (hr : Rd w A l) (hn : l.length = n) (hm : n ≤ 1000000) :
    Calls Try.prog 48 #[.slice A n c] w (SrtP w l) := by
  subst hn
  go_enter Try.func48, Try.ntmps48
  go_wp2
  go_loopw [3] (fun v wr => ∃ j : Nat, j ≤ l.length ∧ v = .int .i64 ((l.length : Int) - 1 - j) ∧ Hid (∀ k a b, l.length - 1 - j ≤ k → l[k]? = some a → l[k + 1]? = some b → a ≤ b) ∧ Below w.heap.size w wr) (fun v _ => (intOf v + 1).toNat)
  case atStart => exact ⟨0, Nat.zero_le _, by go_num, fun k a b hk h1 h2 => by have := (List.getElem?_eq_some_iff.1 h2).1; omega, Below.refl _ _⟩
  case round =>
    obtain ⟨j, hj, rfl, hA, hbr⟩ := hrel
    by_cases hlt : j + 1 < l.length
    · obtain ⟨q, hq⟩ : ∃ q : Nat, l.length = q + 1 + 1 + j := ⟨l.length - 2 - j, by omega⟩
      have hqi : (l.length : Int) - 1 - j = ((q + 1 : Nat) : Int) := by omega
      have hqn : l.length - 1 - j = q + 1 := by omega
      have HQ := Lib.hid hq
      have hr2 := hr.below hbr
      obtain ⟨b, off, y, rfl, hb, hc1, hy⟩ := hr2.at_ (k := q + 1) (by omega)
      obtain ⟨b', off', x0, he, hb', hc0, hx⟩ := hr2.at_ (k := q) (by omega)
      injection he with he
      injection he with e1 e2
      subst e1 e2
      have hyl : l[q + 1]? = some y := by
        have := hy.out
        rw [List.getElem?_eq_getElem (by omega)] at this ⊢
        exact congrArg some this
      have hxl : l[q]? = some x0 := by
        have := hx.out
        rw [List.getElem?_eq_getElem (by omega)] at this ⊢
        exact congrArg some this
      have HY := Lib.hid hyl
      have HX := Lib.hid hxl
      rw [hqn] at hA
      rw [hqi]
      have q1 : 0 < ((q + 1 : Nat) : Int) := by omega
      have q2 : ((q + 1 : Nat) : Int) - 1 = (q : Int) := by omega
      have q3 : ((q + 1 : Nat) : Int) < l.length := by omega
      have q4 : (q : Int) < l.length := by omega
      have q5 : (q : Int) ≤ 1000000 := by omega
      clear hyl hxl hq hqi hqn hy hx hr2
      have f0 : ∀ x : BW wr, x.out.cell? ⟨b, off + (q + 1), none⟩ = some (.int .i64 y) := fun x => (x.ok.cell (p := ⟨_, _, none⟩) hb).trans hc1
      have f1 : ∀ x : BW wr, x.out.cell? ⟨b, off + q, none⟩ = some (.int .i64 x0) := fun x => (x.ok.cell (p := ⟨_, _, none⟩) hb').trans hc0
      clear hc0 hc1
      go_wp2_with fail
      refine wp_region_quiet_below (by kernel_rfl) (by kernel_rfl) ?_
      repeat (go_big_quiet_step ((rename_i x; first
        | ((with_reducible refine (less_int _ _ _).mono ?_); rintro e w3 ⟨rfl, rfl⟩; exact ⟨rfl, ⟨x, rfl⟩⟩)
        | fail)))
      refine wpQuiet_nil ?_
      intro w11 hw11
      obtain ⟨⟨wx, hbW⟩, hw3⟩ := hw11
      dsimp only at hw3
      subst hw3
      have hb11 := below_next hbr hbW
      clear f0 f1
      by_cases hyx : y < x0
      · have hn : Hid (¬ Mc.Adj l) := fun h => by
          have := h q x0 y HX.out HY.out
          omega
        go_wp2
        go_ret
        exact ⟨_, rfl, ⟨fun h => (by cases h), fun h => absurd h hn.out⟩, hb11⟩
      · have hgo : Hid (∀ k a b, l.length - 1 - (j + 1) ≤ k → l[k]? = some a → l[k + 1]? = some b → a ≤ b) := fun k a b hk h1 h2 => by
          have hlq := HQ.out
          by_cases e : k = q
          · subst e
            rw [HX.out] at h1
            rw [HY.out] at h2
            injection h1 with h1
            injection h2 with h2
            omega
          · exact hA.out k a b (by omega) h1 h2
        go_wp2
        exact ⟨⟨j + 1, by omega, by congr 1; have := HQ.out; omega, hgo, hb11⟩, by simp [intOf]; omega⟩
    · have hle : (l.length : Int) - 1 - j ≤ 0 := by omega
      have hf : Hid (Mc.Adj l) := fun k a b h1 h2 => hA.out k a b (by omega) h1 h2
      go_wp2
      go_ret
      exact ⟨_, rfl, ⟨fun _ => hf.out, fun _ => rfl⟩, hbr⟩
end Go.Proofs.Ytldpfbmkmehadaa
