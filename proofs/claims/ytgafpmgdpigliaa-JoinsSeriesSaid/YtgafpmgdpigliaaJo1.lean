/-
  Contracts: check, distinct, put of joins. No statement is proved here.
-/
import Derived.Test.YtgafpmgdpigliaaJo0
namespace Go.Proofs.Ytgafpmgdpigliaa
open Go.RowKit
open Mc (Ed Ma Wv nE)

/-- The error of the first of two machines that has one. -/
def jch (a b : Ma) : Int := if Mc.chk a ≠ 0 then Mc.chk a else Mc.chk b
set_option maxRecDepth 100000 in
set_option maxHeartbeats 2000000 in
theorem jcheck2_any (a b : Ma) (A B : Option Addr) (n c n2 c2 g : Nat) (w : World) (hg : w.heap[g]? = some (.cells #[.int .i64 a.i, .int .i64 a.o, .slice A n c, .int .i64 b.i, .int .i64 b.o, .slice B n2 c2] 24)) (hra : RdR w A a.r) (hn : a.r.length = n) (hnb : n ≤ 1000000) (hrl : ∀ row ∈ a.r, row.length ≤ 1000000) (hrb : RdR w B b.r) (hn2 : b.r.length = n2) (hnb2 : n2 ≤ 1000000) (hrl2 : ∀ row ∈ b.r, row.length ≤ 1000000) :
    Calls Try.prog 55 #[.slice (some ⟨g, 0, none⟩) 2 2] w fun e w' => e = .returned (.int .i64 (jch a b)) ∧ Below w.heap.size w w' := by
  have CA : Hid (∀ wr, Below w.heap.size w wr → Calls Try.prog 73 #[.agg #[.int .i64 a.i, .int .i64 a.o, .slice A n c]] wr fun e w' => e = .returned (.int .i64 (Mc.chk a)) ∧ Below wr.heap.size wr w') := fun wr h => pcheck_any a.i a.o a.r A n c wr (hra.below h) hn hnb hrl
  have CB : Hid (∀ wr, Below w.heap.size w wr → Calls Try.prog 73 #[.agg #[.int .i64 b.i, .int .i64 b.o, .slice B n2 c2]] wr fun e w' => e = .returned (.int .i64 (Mc.chk b)) ∧ Below wr.heap.size wr w') := fun wr h => pcheck_any b.i b.o b.r B n2 c2 wr (hrb.below h) hn2 hnb2 hrl2
  obtain ⟨ai, hai⟩ : ∃ x, a.i = x := ⟨_, rfl⟩
  obtain ⟨ao, hao⟩ : ∃ x, a.o = x := ⟨_, rfl⟩
  obtain ⟨bi, hbi⟩ : ∃ x, b.i = x := ⟨_, rfl⟩
  obtain ⟨bo, hbo⟩ : ∃ x, b.o = x := ⟨_, rfl⟩
  rw [hai, hao] at CA
  rw [hbi, hbo] at CB
  rw [hai, hao, hbi, hbo] at hg
  unfold jch
  obtain ⟨ca, hca⟩ : ∃ x, Mc.chk a = x := ⟨_, rfl⟩
  obtain ⟨cb, hcb⟩ : ∃ x, Mc.chk b = x := ⟨_, rfl⟩
  rw [hca] at CA ⊢
  rw [hcb] at CB ⊢
  obtain ⟨R, hR⟩ : ∃ R, (if ca ≠ 0 then ca else cb) = R := ⟨_, rfl⟩
  rw [hR]
  have HR := Lib.hid hR
  have HG := Lib.hid hg
  clear hR hra hrb hrl hrl2 hai hao hbi hbo hca hcb hn hn2 hnb hnb2 hg a b
  have HS : Hid (∀ wr, Below w.heap.size w wr → wr.cell? ⟨g, 0, none⟩ = some (.int .i64 ai) ∧ wr.cell? ⟨g, 1, none⟩ = some (.int .i64 ao) ∧ wr.cell? ⟨g, 2, none⟩ = some (.slice A n c) ∧ wr.cell? ⟨g, 3, none⟩ = some (.int .i64 bi) ∧ wr.cell? ⟨g, 4, none⟩ = some (.int .i64 bo) ∧ wr.cell? ⟨g, 5, none⟩ = some (.slice B n2 c2)) := fun wr h => by
    have h1 := (h.block g (heap_lt HG.out)).trans HG.out
    refine ⟨?_, ?_, ?_, ?_, ?_, ?_⟩ <;> (rw [cell_of_row _ _ _ _ _ _ h1]; rfl)
  have HB : Hid (Below w.heap.size w w) := Below.refl _ _
  go_enter Try.func55, Try.ntmps55
  go_wp2_with fail
  go_loopw [8] (fun z wr => ∃ k : Nat, k ≤ 2 ∧ z = .int .i64 k ∧ Hid (Zk 1 k ca) ∧ Hid (Zk 2 k cb) ∧ Hid (Below w.heap.size w wr)) (fun z _ => 2 - (intOf z).toNat)
  case atStart => exact ⟨0, by omega, rfl, fun h => by omega, fun h => by omega, HB⟩
  case round =>
    clear HB
    obtain ⟨k, hk, rfl, hA, hB, hbr⟩ := hrel
    obtain ⟨x0, x1, x2, x3, x4, x5⟩ := HS.out _ hbr.out
    by_cases h0 : k = 0
    · subst h0
      go_wp2_with fail
      have hb1 := below_next hbr.out ((Below.refl _ _).alloc (Nat.le_refl _) (.cells #[.int .i64 ai, .int .i64 ao, .slice A n c] 24))
      refine (CA.out _ hb1).mono ?_
      rintro e w1 ⟨rfl, hb2⟩
      have hbF := Lib.hid (below_next hb1 hb2)
      clear hb1 hb2 hbr
      by_cases hc : ca = 0
      · subst hc
        go_wp2
        go_roundw
        case rel => exact ⟨1, by omega, by go_num, (fun _ => rfl), (fun h => by omega), hbF⟩
        case measure => simp [intOf]
      · have hcb' : (ca == 0) = false := by rw [beq_eq_false_iff_ne]; exact hc
        obtain rfl : R = ca := by rw [← HR.out, if_pos hc]
        go_wp2
        go_ret
        exact ⟨rfl, hbF.out⟩
    · by_cases h1 : k = 1
      · subst h1
        have hca0 := hA.out (by omega)
        subst hca0
        go_wp2_with fail
        have hb1 := below_next hbr.out ((Below.refl _ _).alloc (Nat.le_refl _) (.cells #[.int .i64 bi, .int .i64 bo, .slice B n2 c2] 24))
        refine (CB.out _ hb1).mono ?_
        rintro e w1 ⟨rfl, hb2⟩
        have hbF := Lib.hid (below_next hb1 hb2)
        clear hb1 hb2 hbr
        by_cases hc : cb = 0
        · subst hc
          go_wp2
          go_roundw
          case rel => exact ⟨2, by omega, by go_num, (fun _ => rfl), (fun _ => rfl), hbF⟩
          case measure => simp [intOf]
        · have hcb' : (cb == 0) = false := by rw [beq_eq_false_iff_ne]; exact hc
          obtain rfl : R = cb := by rw [← HR.out, if_neg (by simp)]
          go_wp2
          go_ret
          exact ⟨rfl, hbF.out⟩
      · obtain rfl : k = 2 := by omega
        have hca0 := hA.out (by omega)
        have hcb0 := hB.out (by omega)
        subst hca0 hcb0
        obtain rfl : R = 0 := by rw [← HR.out]; simp
        go_wp2
        go_ret
        exact ⟨rfl, hbr.out⟩
set_option maxRecDepth 100000 in
set_option maxHeartbeats 2000000 in
theorem jcheck1_any (a : Ma) (A : Option Addr) (n c g : Nat) (w : World) (hg : w.heap[g]? = some (.cells #[.int .i64 a.i, .int .i64 a.o, .slice A n c] 24)) (hra : RdR w A a.r) (hn : a.r.length = n) (hnb : n ≤ 1000000) (hrl : ∀ row ∈ a.r, row.length ≤ 1000000) :
    Calls Try.prog 55 #[.slice (some ⟨g, 0, none⟩) 1 1] w fun e w' => e = .returned (.int .i64 (Mc.chk a)) ∧ Below w.heap.size w w' := by
  have CA : Hid (∀ wr, Below w.heap.size w wr → Calls Try.prog 73 #[.agg #[.int .i64 a.i, .int .i64 a.o, .slice A n c]] wr fun e w' => e = .returned (.int .i64 (Mc.chk a)) ∧ Below wr.heap.size wr w') := fun wr h => pcheck_any a.i a.o a.r A n c wr (hra.below h) hn hnb hrl
  obtain ⟨ai, hai⟩ : ∃ x, a.i = x := ⟨_, rfl⟩
  obtain ⟨ao, hao⟩ : ∃ x, a.o = x := ⟨_, rfl⟩
  rw [hai, hao] at CA
  rw [hai, hao] at hg
  obtain ⟨ca, hca⟩ : ∃ x, Mc.chk a = x := ⟨_, rfl⟩
  rw [hca] at CA ⊢
  have HG := Lib.hid hg
  clear hra hrl hai hao hca hn hnb hg a
  have HS : Hid (∀ wr, Below w.heap.size w wr → wr.cell? ⟨g, 0, none⟩ = some (.int .i64 ai) ∧ wr.cell? ⟨g, 1, none⟩ = some (.int .i64 ao) ∧ wr.cell? ⟨g, 2, none⟩ = some (.slice A n c)) := fun wr h => by
    have h1 := (h.block g (heap_lt HG.out)).trans HG.out
    refine ⟨?_, ?_, ?_⟩ <;> (rw [cell_of_row _ _ _ _ _ _ h1]; rfl)
  have HB : Hid (Below w.heap.size w w) := Below.refl _ _
  go_enter Try.func55, Try.ntmps55
  go_wp2_with fail
  go_loopw [8] (fun z wr => ∃ k : Nat, k ≤ 1 ∧ z = .int .i64 k ∧ Hid (Zk 1 k ca) ∧ Hid (Below w.heap.size w wr)) (fun z _ => 2 - (intOf z).toNat)
  case atStart => exact ⟨0, by omega, rfl, fun h => by omega, HB⟩
  case round =>
    clear HB
    obtain ⟨k, hk, rfl, hA, hbr⟩ := hrel
    obtain ⟨x0, x1, x2⟩ := HS.out _ hbr.out
    by_cases h0 : k = 0
    · subst h0
      go_wp2_with fail
      have hb1 := below_next hbr.out ((Below.refl _ _).alloc (Nat.le_refl _) (.cells #[.int .i64 ai, .int .i64 ao, .slice A n c] 24))
      refine (CA.out _ hb1).mono ?_
      rintro e w1 ⟨rfl, hb2⟩
      have hbF := Lib.hid (below_next hb1 hb2)
      clear hb1 hb2 hbr
      by_cases hc : ca = 0
      · subst hc
        go_wp2
        go_roundw
        case rel => exact ⟨1, by omega, by go_num, (fun _ => rfl), hbF⟩
        case measure => simp [intOf]
      · have hcb' : (ca == 0) = false := by rw [beq_eq_false_iff_ne]; exact hc
        go_wp2
        go_ret
        exact ⟨rfl, hbF.out⟩
    · obtain rfl : k = 1 := by omega
      have hca0 := hA.out (by omega)
      subst hca0
      go_wp2
      go_ret
      exact ⟨rfl, hbr.out⟩

/-! ### distinct -/
/-- All numbers are below n, and none occurs twice. -/
def Dst (l : List Int) (n : Nat) : Prop := l.Nodup ∧ ∀ z ∈ l, 0 ≤ z ∧ z < n
instance (l : List Int) (n : Nat) : Decidable (Dst l n) := by unfold Dst; exact inferInstance
/-- Which numbers have been met. -/
def Met1 (l : List Int) (n k : Nat) (B : List Bool) : Prop := B.length = n ∧ Dst (l.take k) n ∧ ∀ j : Nat, j < n → B[j]? = some (decide ((j : Int) ∈ l.take k))
theorem Met1.start (l : List Int) (n : Nat) : Met1 l n 0 (List.replicate n false) := ⟨by simp, ⟨by simp, by simp⟩, fun j hj => by simp [hj]⟩
theorem Met1.next {l : List Int} {n k t : Nat} {B : List Bool} (h : Met1 l n k B) (hk : l[k]? = some (t : Int)) (ht : t < n) (hm : B[t]? = some false) : Met1 l n (k + 1) (B.set t true) := by
  obtain ⟨h1, ⟨h2, h3⟩, h4⟩ := h
  have hnm : ¬ (t : Int) ∈ l.take k := by
    have := h4 t ht
    rw [hm] at this
    simpa using this
  have e : l.take (k + 1) = l.take k ++ [(t : Int)] := by rw [List.take_add_one, hk]; rfl
  refine ⟨by simp [h1], ⟨?_, ?_⟩, fun j hj => ?_⟩
  · rw [e, List.nodup_append]
    refine ⟨h2, by simp, fun a ha b hb => ?_⟩
    simp at hb
    subst hb
    exact fun e2 => hnm (e2 ▸ ha)
  · rw [e]
    intro z hz
    rcases List.mem_append.1 hz with hz | hz
    · exact h3 z hz
    · simp at hz; subst hz; omega
  · rw [e, List.getElem?_set]
    by_cases hjt : t = j
    · subst hjt
      rw [if_pos rfl, if_pos (by omega)]
      simp
    · rw [if_neg hjt, h4 j hj]
      have : (j : Int) ≠ (t : Int) := by omega
      simp [this]
theorem Met1.dup {l : List Int} {n k t : Nat} {B : List Bool} (h : Met1 l n k B) (hk : l[k]? = some (t : Int)) (ht : t < n) (hm : B[t]? = some true) : ¬ Dst l n := by
  obtain ⟨h1, _, h4⟩ := h
  have hin : (t : Int) ∈ l.take k := by
    have := h4 t ht
    rw [hm] at this
    simpa using this
  rintro ⟨hd, _⟩
  obtain ⟨i, hi⟩ := List.mem_iff_getElem?.1 hin
  rw [List.getElem?_take] at hi
  split at hi
  · rename_i hik
    have a1 := List.getElem?_eq_some_iff.1 hi
    have a2 := List.getElem?_eq_some_iff.1 hk
    have := (List.getElem_inj (h₀ := a1.1) (h₁ := a2.1) hd).1 (a1.2.trans a2.2.symm)
    omega
  · cases hi
theorem Dst.out {l : List Int} {n k : Nat} {z : Int} (hk : l[k]? = some z) (hz : z < 0 ∨ n ≤ z) : ¬ Dst l n := fun h => by
  have := h.2 z (List.mem_of_getElem? hk)
  omega
set_option maxRecDepth 100000 in
set_option maxHeartbeats 2000000 in
theorem distinct_any (l : List Int) (A : Option Addr) (L c n : Nat) (w : World) (hr : Rd w A l) (hL : l.length = L) (hL2 : L ≤ 9223372036854775807) (hn : n ≤ 1000) :
    Calls Try.prog 86 #[.slice A L c, .int .i64 n] w fun e w' => e = .returned (.bool (decide (Dst l n))) ∧ Below w.heap.size w w' := by
  obtain ⟨R, hR⟩ : ∃ R, decide (Dst l n) = R := ⟨_, rfl⟩
  rw [hR]
  have HR := Lib.hid hR
  have HL := Lib.hid hL
  have RR := Lib.hid hr
  clear hR hL hr
  go_enter Try.func86, Try.ntmps86
  go_wp2_with (at_make; go_loud (refine wpList_make_bools _ rfl _ _ rfl _ n rfl rfl rfl (by omega) ?_))
  intro w1 hB1 hb1
  obtain ⟨g, hg⟩ : ∃ g, w.heap.size = g := ⟨_, rfl⟩
  rw [hg] at hB1
  try rw [hg]
  have HB1 := Lib.hid hb1
  have HG := Lib.hid hg
  clear hg hb1
  go_wp2
  go_loopw [12] (fun v wr => ∃ (k : Nat) (B : List Bool), k ≤ L ∧ v = .int .i64 k ∧ Hid (Met1 l n k B) ∧ Hid (BlkB wr g B) ∧ Hid (Below w.heap.size w wr)) (fun v _ => L - (intOf v).toNat)
  case atStart => exact ⟨0, _, Nat.zero_le _, rfl, Met1.start l n, hB1, HB1⟩
  case round =>
    obtain ⟨k, B, hk, rfl, hM, hB, hb⟩ := hrel
    clear hB1 HB1
    by_cases hlt : k < L
    · obtain ⟨b, off, z, rfl, _, hc, hz⟩ := (RR.out.below hb.out).at_ (k := k) (by rw [HL.out]; exact hlt)
      have hzl : Hid (l[k]? = some z) := by
        have := hz.out
        rw [List.getElem?_eq_getElem (by rw [HL.out]; exact hlt)] at this
        show _ = _
        rw [List.getElem?_eq_getElem (by rw [HL.out]; exact hlt)]
        exact congrArg some this
      clear hz
      by_cases h0 : z < 0
      · obtain rfl : R = false := by rw [← HR.out]; exact decide_eq_false (Dst.out hzl.out (Or.inl h0))
        have hd : decide (z < 0) = true := decide_eq_true h0
        clear h0
        go_wp2
        go_ret
        exact ⟨rfl, hb.out⟩
      · obtain ⟨t, rfl⟩ := Int.eq_ofNat_of_zero_le (show 0 ≤ z by omega)
        have hd : decide ((t : Int) < 0) = false := decide_eq_false h0
        clear h0
        by_cases h1 : t < n
        · have hd1 : decide ((n : Int) ≤ t) = false := decide_eq_false (by omega)
          obtain ⟨y, c0, c1, hy⟩ := hB.out.at_ (k := t) (by rw [hM.out.1]; exact h1)
          have ht1 : (t : Int) < n := by omega
          cases y with
          | true =>
            obtain rfl : R = false := by rw [← HR.out]; exact decide_eq_false (hM.out.dup hzl.out h1 hy.out)
            go_wp2
            go_ret
            exact ⟨rfl, hb.out⟩
          | false =>
            have hM2 := Lib.hid (hM.out.next hzl.out h1 hy.out)
            have hB2 := Lib.hid (hB.out.set_ t true)
            have hb2 := Lib.hid (hb.out.setCell (p := ⟨g, t, none⟩) (by show w.heap.size ≤ g; have := HG.out; omega) (.bool true))
            clear hM hB hb hy hzl
            go_wp2
            go_roundw
            case rel => exact ⟨k + 1, _, by omega, by go_num, hM2, hB2, hb2⟩
            case measure => simp [intOf]; omega
        · obtain rfl : R = false := by rw [← HR.out]; exact decide_eq_false (Dst.out hzl.out (Or.inr (by omega)))
          have hd1 : decide ((n : Int) ≤ t) = true := decide_eq_true (by omega)
          go_wp2
          go_ret
          exact ⟨rfl, hb.out⟩
    · obtain rfl : R = true := by
        rw [← HR.out]
        have h := hM.out.2.1
        rw [List.take_of_length_le (by rw [HL.out]; omega)] at h
        exact decide_eq_true h
      clear hM hB
      go_wp2
      go_ret
      exact ⟨rfl, hb.out⟩
end Go.Proofs.Ytgafpmgdpigliaa
