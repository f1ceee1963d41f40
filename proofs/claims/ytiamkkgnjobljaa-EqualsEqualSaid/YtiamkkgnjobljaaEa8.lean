/-
  Contract: equals.checkPairs. No statement is proved here.
-/
import Derived.Test.YtiamkkgnjobljaaEa7
namespace Go.Proofs.Ytiamkkgnjobljaa
open Go.RowKit
open Mc (Ed Ma Wv)

/-- A pair of states of two machines. -/
def inR (n n2 : Nat) (p : Int × Int) : Prop := (0 ≤ p.1 ∧ p.1 < n) ∧ (0 ≤ p.2 ∧ p.2 < n2)
instance (n n2 : Nat) (p : Int × Int) : Decidable (inR n n2 p) := by unfold inR; infer_instance
/-- The error of two machines and a relation. -/
def pck (a b : Ma) (R : List (Int × Int)) : Int := if ech a b ≠ 0 then ech a b else if 4096 < R.length then 3 else if ∀ p ∈ R, inR a.r.length b.r.length p then 0 else 1
theorem pck_ok {a b : Ma} {R : List (Int × Int)} (h : pck a b R = 0) : ech a b = 0 ∧ R.length ≤ 4096 ∧ ∀ p ∈ R, inR a.r.length b.r.length p := by
  unfold pck at h
  split at h
  · rename_i h1; exact absurd h h1
  · rename_i h1
    split at h
    · omega
    · split at h
      · rename_i h2 h3
        exact ⟨by simpa using h1, by omega, h3⟩
      · omega
set_option maxRecDepth 100000 in
set_option maxHeartbeats 4000000 in
theorem checkPairs_any (a b : Ma) (A B X : Option Addr) (n c n2 c2 k cX : Nat) (R : List (Int × Int)) (w : World) (hra : RdR w A a.r) (hn : a.r.length = n) (hnb : n ≤ 1000000) (hrl : ∀ row ∈ a.r, row.length ≤ 1000000) (hrb : RdR w B b.r) (hn2 : b.r.length = n2) (hnb2 : n2 ≤ 1000000) (hrl2 : ∀ row ∈ b.r, row.length ≤ 1000000) (hrx : RdP w X R) (hk : R.length = k) (hkb : k ≤ 1000000) :
    Calls Try.prog 60 #[.agg #[.int .i64 a.i, .int .i64 a.o, .slice A n c], .agg #[.int .i64 b.i, .int .i64 b.o, .slice B n2 c2], .slice X k cX] w fun e w' => e = .returned (.int .i64 (pck a b R)) ∧ Below w.heap.size w w' := by
  obtain ⟨Z, hZ⟩ : ∃ Z, pck a b R = Z := ⟨_, rfl⟩
  rw [hZ]
  have HZ : Hid (Z = if ech a b ≠ 0 then ech a b else if 4096 < k then 3 else if ∀ p ∈ R, inR n n2 p then 0 else 1) := by
    show _ = _
    rw [← hZ, ← hn, ← hn2, ← hk]
    rfl
  obtain ⟨W1, hW1⟩ : ∃ W1, boxM (boxM w a.i a.o A n c) b.i b.o B n2 c2 = W1 := ⟨_, rfl⟩
  have HB : Below w.heap.size w W1 := by rw [← hW1]; exact ((Below.refl _ _).alloc (Nat.le_refl _) _).alloc (by simp) _
  have HMA : BxM W1 w.heap.size a.i a.o A n c := by rw [← hW1]; exact (BxM.new w a.i a.o A n c).mvB ((Below.refl _ _).alloc (Nat.le_refl _) _)
  have HMB : BxM W1 (w.heap.size + 1) b.i b.o B n2 c2 := by rw [← hW1]; exact BxM.newE (by simp [boxM]) b.i b.o B n2 c2
  have HC := Lib.hid (echeck_any a b A B n c n2 c2 W1 (hra.below HB) hn hnb hrl (hrb.below HB) hn2 hnb2 hrl2)
  have HBB := Lib.hid HB
  have HM1 := Lib.hid HMA
  have HM2 := Lib.hid HMB
  obtain ⟨x0, x1, x2⟩ := HMA.cells
  obtain ⟨y0, y1, y2⟩ := HMB.cells
  have HK := Lib.hid hk
  obtain ⟨ai, hai⟩ : ∃ x, a.i = x := ⟨_, rfl⟩
  obtain ⟨ao, hao⟩ : ∃ x, a.o = x := ⟨_, rfl⟩
  obtain ⟨bi, hbi⟩ : ∃ x, b.i = x := ⟨_, rfl⟩
  obtain ⟨bo, hbo⟩ : ∃ x, b.o = x := ⟨_, rfl⟩
  obtain ⟨z, hz⟩ : ∃ z, ech a b = z := ⟨_, rfl⟩
  rw [hai, hao, hbi, hbo] at HC ⊢
  simp only [hai, hao, hbi, hbo] at HM1 x0 x1 x2 HM2 y0 y1 y2 hW1
  rw [hz] at HC HZ
  clear HB HMA HMB hrl hrl2 hai hao hbi hbo hz hk hn hn2 hZ
  go_enter Try.func60, Try.ntmps60
  go_wp2_with fail
  refine HC.out.mono ?_
  rintro e w1 ⟨rfl, hb1⟩
  have hb1' := below_next HBB.out hb1
  have HB1 := Lib.hid hb1'
  have HMA := Lib.hid (HM1.out.mvB hb1)
  have HMB := Lib.hid (HM2.out.mvB hb1)
  clear x0 x1 x2 y0 y1 y2 hb1 hb1' HM1 HM2 HC HBB hW1
  by_cases hz : z = 0
  · subst hz
    by_cases hkl : 4096 < k
    · have hkd : decide ((k : Int) > 4096) = true := decide_eq_true (by omega)
      obtain rfl : Z = 3 := by rw [HZ.out, if_neg (by simp), if_pos hkl]
      go_wp2
      go_ret
      exact ⟨rfl, HB1.out⟩
    · have hkd : decide ((k : Int) > 4096) = false := decide_eq_false (by omega)
      have HKL := Lib.hid hkl
      clear hkl
      go_wp2_with fail
      go_loopw [21] (fun z wr => ∃ j : Nat, j ≤ k ∧ z = .int .i64 j ∧ Hid (∀ q p, q < j → R[q]? = some p → inR n n2 p) ∧ Hid (BxM wr w.heap.size ai ao A n c) ∧ Hid (BxM wr (w.heap.size + 1) bi bo B n2 c2) ∧ Hid (Below w.heap.size w wr)) (fun z _ => k - (intOf z).toNat)
      case atStart => exact ⟨0, by omega, rfl, fun q p h => by omega, HMA, HMB, HB1⟩
      case round =>
        clear HMA HMB HB1
        obtain ⟨j, hj, rfl, hA, hMA, hMB, hbr⟩ := hrel
        by_cases hjk : j < k
        · obtain ⟨e1, f1, x, y, rfl, he1, hx0, hy0, hqe1⟩ := hrx.at_ (k := j) (by rw [HK.out]; exact hjk)
          have hjk' : (j : Int) < k := by omega
          have z0 := (hbr.out.cell (p := ⟨e1, f1 + j * 2, none⟩) he1).trans hx0
          have z1 := (hbr.out.cell (p := ⟨e1, f1 + j * 2 + 1, none⟩) he1).trans hy0
          have hbA : Below wr.heap.size wr (wr.alloc (.cells #[.int .i64 x, .int .i64 y] 95)) := (Below.refl _ _).alloc (Nat.le_refl _) _
          have hM1 := hMA.out.mvB hbA
          have hM2 := hMB.out.mvB hbA
          have hbN := Lib.hid (below_next hbr.out hbA)
          obtain ⟨_, _, x2⟩ := hM1.cells
          obtain ⟨_, _, y2⟩ := hM2.cells
          have HMA := Lib.hid hM1
          have HMB := Lib.hid hM2
          clear hx0 hy0 he1 hbA hM1 hM2 hMA hMB hbr
          have hbad : Hid (¬ inR n n2 (x, y) → Z = 1) := fun hno => by
            rw [HZ.out, if_neg (by simp), if_neg HKL.out, if_neg (fun hall => hno (hall _ (List.mem_of_getElem? hqe1.out)))]
          by_cases h1 : x < 0
          · have d1 : decide (x < 0) = true := decide_eq_true h1
            obtain rfl : Z = 1 := hbad.out (by unfold inR; omega)
            go_wp2
            go_ret
            exact ⟨rfl, hbN.out⟩
          · have d1 : decide (x < 0) = false := decide_eq_false h1
            by_cases h2 : (n : Int) ≤ x
            · have d2 : decide (x ≥ (n : Int)) = true := decide_eq_true h2
              obtain rfl : Z = 1 := hbad.out (by unfold inR; omega)
              go_wp2
              go_ret
              exact ⟨rfl, hbN.out⟩
            · have d2 : decide (x ≥ (n : Int)) = false := decide_eq_false h2
              by_cases h3 : y < 0
              · have d3 : decide (y < 0) = true := decide_eq_true h3
                obtain rfl : Z = 1 := hbad.out (by unfold inR; omega)
                go_wp2
                go_ret
                exact ⟨rfl, hbN.out⟩
              · have d3 : decide (y < 0) = false := decide_eq_false h3
                by_cases h4 : (n2 : Int) ≤ y
                · have d4 : decide (y ≥ (n2 : Int)) = true := decide_eq_true h4
                  obtain rfl : Z = 1 := hbad.out (by unfold inR; omega)
                  go_wp2
                  go_ret
                  exact ⟨rfl, hbN.out⟩
                · have d4 : decide (y ≥ (n2 : Int)) = false := decide_eq_false h4
                  have hA2 : Hid (∀ q p, q < j + 1 → R[q]? = some p → inR n n2 p) := fun q p hq hp => by
                    rcases Nat.lt_or_ge q j with h | h
                    · exact hA.out q p h hp
                    · obtain rfl : q = j := by omega
                      rw [hqe1.out] at hp
                      injection hp with hp
                      subst hp
                      unfold inR
                      omega
                  go_wp2
                  go_roundw
                  case rel => exact ⟨j + 1, by omega, by go_num, hA2, HMA, HMB, hbN⟩
                  case measure => simp [intOf]; omega
        · obtain rfl : j = k := by omega
          have hlt : ¬ ((j : Int) < j) := by omega
          obtain rfl : Z = 0 := by
            rw [HZ.out, if_neg (by simp), if_neg HKL.out, if_pos]
            intro p hp
            obtain ⟨q, hq, rfl⟩ := List.getElem_of_mem hp
            exact hA.out q _ (by rw [← HK.out]; exact hq) (List.getElem?_eq_getElem hq)
          go_wp2
          go_ret
          exact ⟨rfl, hbr.out⟩
  · have hzb : (z == 0) = false := by rw [beq_eq_false_iff_ne]; exact hz
    obtain rfl : Z = z := by rw [HZ.out, if_pos hz]
    go_wp2
    go_ret
    exact ⟨rfl, HB1.out⟩
end Go.Proofs.Ytiamkkgnjobljaa
