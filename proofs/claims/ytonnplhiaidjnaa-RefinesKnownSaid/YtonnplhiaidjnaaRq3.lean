/-
  The walk of the law RefinesClasses. No statement is proved here.
-/
import Derived.Test.YtonnplhiaidjnaaRq1
import Derived.Deep.RegionHeld3
import Derived.Deep.QuietTactic
import Derived.BigQuiet
namespace Go.Proofs.Ytonnplhiaidjnaa
open Go.RowKit
open Mc (Ed Ma)

theorem sames_at (X Y : Option Addr) (k c d : Nat) (x : List Int) (w : World) (hx : Rd w X x) (hy : Rd w Y x) (h1 : x.length = k) (hk : k ≤ 1000000) :
    Calls Try.prog 18 #[.slice X k c, .slice Y k d] w fun e w' => e = .returned (.bool true) ∧ Below w.heap.size w w' := by
  have := same_at w X Y k c d x x hx hy h1 h1 hk
  rwa [M.same_yes rfl] at this
theorem samen_at (X Y : Option Addr) (k c d : Nat) (x y : List Int) (w : World) (hx : Rd w X x) (hy : Rd w Y y) (h1 : x.length = k) (h2 : y.length = k) (hk : k ≤ 1000000) (hne : x ≠ y) :
    Calls Try.prog 18 #[.slice X k c, .slice Y k d] w fun e w' => e = .returned (.bool false) ∧ Below w.heap.size w w' := by
  have := same_at w X Y k c d x y hx hy h1 h2 hk
  rwa [M.same_no hne] at this
set_option maxRecDepth 100000 in
set_option maxHeartbeats 8000000 in
theorem lawClasses_walk (a b d : Int) (p : Bool) (A : Option Addr) (c : Nat) (es : List Int) (z : Int) (w : World) (hr : Rd16 w A es) (hl : es.length ≤ 9223372036854775807) (ha : 0 ≤ a ∧ a ≤ 255) (hb : 0 ≤ b ∧ b ≤ 255) (hd : 0 ≤ d ∧ d ≤ 255) (hz : 0 ≤ z ∧ z ≤ 255) :
    Calls Try.prog 3 #[.agg #[.int .u8 a, .int .u8 b, .int .u8 d, .bool p, .slice A es.length c], .int .u8 z] w fun e w' => e = .returned (.bool true) ∧ Below w.heap.size w w' := by
  obtain ⟨n, hn⟩ : ∃ n : Nat, 1 + a % 6 = n := ⟨(1 + a % 6).toNat, by omega⟩
  obtain ⟨i, hi⟩ : ∃ i : Nat, 1 + b % 3 = i := ⟨(1 + b % 3).toNat, by omega⟩
  obtain ⟨o, ho⟩ : ∃ o : Nat, 1 + d % 3 = o := ⟨(1 + d % 3).toNat, by omega⟩
  obtain ⟨k, rfl⟩ : ∃ k : Nat, z = k := ⟨z.toNat, by omega⟩
  have hk4 : k ≤ 255 := by omega
  have hn6 : n ≤ 6 := by omega
  have hi3 : i ≤ 3 := by omega
  have hi1 : 1 ≤ i := by omega
  have CM := fun w hr => mof_at a b d p A c es n i o w hr hl ha hb hd hn hi ho
  obtain ⟨M, hM⟩ : ∃ M, Mc.mkN p n i o es = M := ⟨_, rfl⟩
  have V := Lib.hid (Mc.mkN_val (p := p) (n := n) (i := i) (o := o) (es := es) (by omega) (by omega) (by omega) (by omega) (by omega) (by omega))
  have hlen : Hid ((Mc.mkN p n i o es).r.length = n) := Mc.mkN_len _ _ _ _ _
  have hmi : Hid ((Mc.mkN p n i o es).i = i) := rfl
  have hmo : Hid ((Mc.mkN p n i o es).o = o) := rfl
  rw [hM] at V hlen hmi hmo
  simp only [hM] at CM
  have h0 := V.out.r0
  have HL := Lib.hid (Mc.lst_lst (m := M) h0)
  obtain ⟨L, hLe⟩ : ∃ L, Mc.lst M = L := ⟨_, rfl⟩
  have HLE : Hid (Mc.lst M = L) := hLe
  have hLn : L < n := by rw [← hLe, ← hlen.out]; exact Mc.lst_lt h0
  rw [hLe] at HL
  obtain ⟨P, hP⟩ : ∃ P, Mc.cls M = P := ⟨_, rfl⟩
  have HP : Hid (Mc.cls M = P) := hP
  have HPn : Hid (Mc.rnd M L = P) := by rw [← hP, ← hLe]; rfl
  have HPL : Hid (P.length = n) := by show _ = _; rw [← hP]; exact (Mc.rnd_len _ _).trans hlen.out
  have HP1 : Hid (0 < L → Mc.rnd M (L - 1) ≠ P) := fun h e => by
    refine HL.out.more (L - 1) (by omega) ?_
    rw [Nat.sub_add_cancel h, HPn.out, e]
  have HL1 : Hid (∀ j, (Mc.rnd M j).length = n) := fun j => (Mc.rnd_len _ _).trans hlen.out
  have HM6 : Hid (Mc.rnd M (min k 6) = Mc.rnd M k) := by
    show _ = _
    by_cases h6 : k ≤ 6
    · rw [Nat.min_eq_left h6]
    · rw [Mc.cls_from h0 (k := min k 6) (by omega), Mc.cls_from h0 (k := k) (by omega)]
  have HF1 : Hid (Go.Proofs.Ytonnplhiaidjnaa.M.fin (Mc.rnd M (k + 1)) (Mc.rnd M k)) := Mc.rnd_fin M k
  have HF2 : Hid (Go.Proofs.Ytonnplhiaidjnaa.M.fin P (Mc.rnd M (k + 1))) := by
    rw [← hP]
    exact Mc.cls_fin V.out (k + 1)
  clear hM ha hb hd hn hi ho hl hLe hP h0
  have HR := Lib.hid hr
  clear hr
  obtain ⟨K0, hK0⟩ : ∃ K0, w.heap.size = K0 := ⟨_, rfl⟩
  have s0 : MT w w [] := MT.start
  have s1 := MT.putK (P := fun w => w.heap[K0]? = some (.cells #[.int .u8 a, .int .u8 b, .int .u8 d, .bool p, .slice A es.length c] 24)) (MT.alloc s0 (.cells #[.int .u8 a, .int .u8 b, .int .u8 d, .bool p, .slice A es.length c] 24))
    (by rw [← hK0]; exact heap_alloc_new w _) (fun _ _ h hb => (hb.block _ (heap_lt h)).trans h)
  clear s0
  go_enter Try.func3, Try.ntmps3
  go_upto_region 1 with fail
  obtain ⟨W0, hW0⟩ : ∃ W0, w.alloc (.cells #[.int .u8 a, .int .u8 b, .int .u8 d, .bool p, .slice A es.length c] 24) = W0 := ⟨_, rfl⟩
  rw [hW0] at s1
  try rw [hW0]
  try rw [hK0]
  clear hW0 hK0
  have kM : W0.cell? ⟨K0, 0, none⟩ = some (.int .u8 a) ∧ W0.cell? ⟨K0, 1, none⟩ = some (.int .u8 b) ∧ W0.cell? ⟨K0, 2, none⟩ = some (.int .u8 d) ∧ W0.cell? ⟨K0, 3, none⟩ = some (.bool p) ∧ W0.cell? ⟨K0, 4, none⟩ = some (.slice A es.length c) := by
    have h1 := MK.get s1 0 rfl
    refine ⟨?_, ?_, ?_, ?_, ?_⟩ <;> (rw [cell_of_row _ _ _ _ _ _ h1]; rfl)
  obtain ⟨x0, x1, x2, x3, x4⟩ := kM
  go_wp2_with fail
  clear x0 x1 x2 x3 x4
  refine (CM _ (HR.out.below s1.2.1)).mono ?_
  rintro e w1 ⟨R, c1, rfl, hrd, hbl⟩
  have s2 := MK.putB (g := w1.heap.size) (MT.alloc (MK.putR (MT.next s1 hbl) hrd) (.cells #[.int .i64 i, .int .i64 o, .slice R n c1] 27)) (heap_alloc_new w1 _)
  clear s1 hrd hbl CM HR
  go_upto_region 2 with fail
  obtain ⟨g, hg⟩ : ∃ g, w1.heap.size = g := ⟨_, rfl⟩
  obtain ⟨W2, hW2⟩ : ∃ W, w1.alloc (.cells #[.int .i64 i, .int .i64 o, .slice R n c1] 27) = W := ⟨_, rfl⟩
  rw [hg, hW2] at s2
  try rw [hg]
  try rw [hW2]
  clear hg hW2
  obtain ⟨m0, m1, m2⟩ := BxM.cells (MK.get s2 0 rfl)
  go_wp2_with fail
  clear m0 m1 m2
  refine (pclasses_at M i o R n c1 _ V.out hmi.out hmo.out hlen.out (MK.get s2 1 rfl)).mono ?_
  rintro e w3 ⟨B, rfl, hrd, hbl⟩
  rw [HP.out] at hrd
  rw [HLE.out]
  have s3 := MK.putL (MT.next s2 hbl) hrd
  clear s2 hrd hbl
  have d1 : decide ((L : Int) < 0) = false := decide_eq_false (by omega)
  have d2 : decide ((n : Int) ≤ L) = false := decide_eq_false (by omega)
  obtain ⟨m0, m1, m2⟩ := BxM.cells (MK.get s3 1 rfl)
  go_wp2_with fail
  clear m0 m1 m2
  refine (rclasses_any M i o R n c1 _ V.out hmi.out hlen.out (MK.get s3 2 rfl)).mono ?_
  rintro e w4 ⟨C, q, rfl, hrd, hbl⟩
  rw [HP.out] at hrd
  have s4 := MK.putL (MT.next s3 hbl) hrd
  clear s3 hrd hbl
  go_wp2_with fail
  refine (list_yes B C n q P 0 _ (MK.get s4 1 rfl) (MK.get s4 0 rfl) HPL.out (by omega)).mono ?_
  rintro e w5 ⟨rfl, hbl⟩
  have s5 := MT.next s4 hbl
  clear s4 hbl
  obtain ⟨m0, m1, m2⟩ := BxM.cells (MK.get s5 2 rfl)
  go_wp2_with fail
  clear m0 m1 m2
  refine (rrounds_any M i L o R n c1 _ V.out hmi.out hlen.out (MK.get s5 3 rfl) (by omega)).mono ?_
  rintro e w6 ⟨C2, q2, rfl, hrd, hbl⟩
  rw [HPn.out] at hrd
  have s6 := MK.putL (MT.next s5 hbl) hrd
  clear s5 hrd hbl
  go_wp2_with fail
  refine (sames_at C2 B n q2 n P _ (MK.get s6 0 rfl) (MK.get s6 2 rfl) HPL.out (by omega)).mono ?_
  rintro e w7 ⟨rfl, hbl⟩
  have s7 := MT.next s6 hbl
  clear s6 hbl
  rcases Nat.eq_zero_or_pos L with hL0 | hL0
  · have d3 : decide ((0 : Int) < L) = false := decide_eq_false (by omega)
    obtain ⟨m0, m1, m2⟩ := BxM.cells (MK.get s7 3 rfl)
    go_wp2_with fail
    clear m0 m1 m2
    have t0 : MT w _ [] := ⟨trivial, s7.2.1, fun _ h => by simp at h⟩
    have t1 := MK.putL (MK.putR (MK.putB t0 (MK.get s7 3 rfl)) (MK.get s7 4 rfl)) (MK.get s7 2 rfl)
    clear t0 s7
    refine (prounds_at M i o R n c1 _ k V.out hmi.out hmo.out hlen.out (MK.get t1 1 rfl)).mono ?_
    rintro e y1 ⟨B2, rfl, hrd, hbl⟩
    have t2 := MK.putL (MT.next t1 hbl) hrd
    clear t1 hrd hbl
    obtain ⟨m0, m1, m2⟩ := BxM.cells (MK.get t2 3 rfl)
    have hk1 : ((k + 1 : Nat) : Int) = (k : Int) + 1 := by omega
    have C2 := prounds_at M i o R n c1 y1 (k + 1) V.out hmi.out hmo.out hlen.out (MK.get t2 2 rfl)
    rw [hk1] at C2
    clear hk1
    go_wp2_with fail
    clear m0 m1 m2
    refine C2.mono ?_
    rintro e y2 ⟨B3, rfl, hrd, hbl⟩
    have t3 := MK.putL (MT.next t2 hbl) hrd
    clear t2 hrd hbl C2
    obtain ⟨m0, m1, m2⟩ := BxM.cells (MK.get t3 4 rfl)
    have C3 := rrounds_any M i (min k 6) o R n c1 y2 V.out hmi.out hlen.out (MK.get t3 3 rfl) (by omega)
    rw [HM6.out] at C3
    have hmn : min (k : Int) 6 = ((min k 6 : Nat) : Int) := by omega
    go_wp2_with fail
    clear m0 m1 m2 hmn
    refine C3.mono ?_
    rintro e y3 ⟨C5, q5, rfl, hrd, hbl⟩
    have t4 := MK.putL (MT.next t3 hbl) hrd
    clear t3 hrd hbl C3
    go_wp2_with fail
    refine (list_yes B2 C5 n q5 (Mc.rnd M k) 0 _ (MK.get t4 2 rfl) (MK.get t4 0 rfl) (HL1.out k) (by omega)).mono ?_
    rintro e y4 ⟨rfl, hbl⟩
    have t5 := MT.next t4 hbl
    clear t4 hbl
    go_wp2_with fail
    refine (rfiner_at y4 B3 B2 n n n (Mc.rnd M (k + 1)) (Mc.rnd M k) (MK.get t5 1 rfl) (MK.get t5 2 rfl) (HL1.out _) (HL1.out _) (by omega) HF1.out).mono ?_
    rintro e y5 ⟨rfl, hbl⟩
    have t6 := MT.next t5 hbl
    clear t5 hbl
    go_wp2_with fail
    refine (rfiner_at y5 B B3 n n n P (Mc.rnd M (k + 1)) (MK.get t6 3 rfl) (MK.get t6 1 rfl) HPL.out (HL1.out _) (by omega) HF2.out).mono ?_
    rintro e y6 ⟨rfl, hbl⟩
    have hbF := Lib.hid (below_next t6.2.1 hbl)
    clear t6 hbl
    go_wp2_with fail
    refine (lives_walk _).mono ?_
    rintro e y7 ⟨rfl, hb⟩
    go_wp2_with fail
    go_ret
    exact ⟨rfl, below_next hbF.out hb⟩
  · have d3 : decide ((0 : Int) < L) = true := decide_eq_true (by omega)
    obtain ⟨l1, hl1⟩ : ∃ l1 : Nat, (L : Int) - 1 = l1 := ⟨L - 1, by omega⟩
    have HNE : Hid (Mc.rnd M l1 ≠ P) := by rw [show l1 = L - 1 by omega]; exact HP1.out hL0
    obtain ⟨m0, m1, m2⟩ := BxM.cells (MK.get s7 3 rfl)
    go_wp2_with fail
    clear m0 m1 m2
    refine (rrounds_any M i l1 o R n c1 _ V.out hmi.out hlen.out (MK.get s7 4 rfl) (by omega)).mono ?_
    rintro e w8 ⟨C4, q4, rfl, hrd, hbl⟩
    have s8 := MK.putL (MT.next s7 hbl) hrd
    clear s7 hrd hbl
    go_wp2_with fail
    refine (samen_at C4 B n q4 n (Mc.rnd M l1) P _ (MK.get s8 0 rfl) (MK.get s8 3 rfl) (HL1.out _) HPL.out (by omega) HNE.out).mono ?_
    rintro e w9 ⟨rfl, hbl⟩
    have s9 := MT.next s8 hbl
    clear s8 hbl
    obtain ⟨m0, m1, m2⟩ := BxM.cells (MK.get s9 4 rfl)
    go_wp2_with fail
    clear m0 m1 m2
    have t0 : MT w _ [] := ⟨trivial, s9.2.1, fun _ h => by simp at h⟩
    have t1 := MK.putL (MK.putR (MK.putB t0 (MK.get s9 4 rfl)) (MK.get s9 5 rfl)) (MK.get s9 3 rfl)
    clear t0 s9
    refine (prounds_at M i o R n c1 _ k V.out hmi.out hmo.out hlen.out (MK.get t1 1 rfl)).mono ?_
    rintro e y1 ⟨B2, rfl, hrd, hbl⟩
    have t2 := MK.putL (MT.next t1 hbl) hrd
    clear t1 hrd hbl
    obtain ⟨m0, m1, m2⟩ := BxM.cells (MK.get t2 3 rfl)
    have hk1 : ((k + 1 : Nat) : Int) = (k : Int) + 1 := by omega
    have C2 := prounds_at M i o R n c1 y1 (k + 1) V.out hmi.out hmo.out hlen.out (MK.get t2 2 rfl)
    rw [hk1] at C2
    clear hk1
    go_wp2_with fail
    clear m0 m1 m2
    refine C2.mono ?_
    rintro e y2 ⟨B3, rfl, hrd, hbl⟩
    have t3 := MK.putL (MT.next t2 hbl) hrd
    clear t2 hrd hbl C2
    obtain ⟨m0, m1, m2⟩ := BxM.cells (MK.get t3 4 rfl)
    have C3 := rrounds_any M i (min k 6) o R n c1 y2 V.out hmi.out hlen.out (MK.get t3 3 rfl) (by omega)
    rw [HM6.out] at C3
    have hmn : min (k : Int) 6 = ((min k 6 : Nat) : Int) := by omega
    go_wp2_with fail
    clear m0 m1 m2 hmn
    refine C3.mono ?_
    rintro e y3 ⟨C5, q5, rfl, hrd, hbl⟩
    have t4 := MK.putL (MT.next t3 hbl) hrd
    clear t3 hrd hbl C3
    go_wp2_with fail
    refine (list_yes B2 C5 n q5 (Mc.rnd M k) 0 _ (MK.get t4 2 rfl) (MK.get t4 0 rfl) (HL1.out k) (by omega)).mono ?_
    rintro e y4 ⟨rfl, hbl⟩
    have t5 := MT.next t4 hbl
    clear t4 hbl
    go_wp2_with fail
    refine (rfiner_at y4 B3 B2 n n n (Mc.rnd M (k + 1)) (Mc.rnd M k) (MK.get t5 1 rfl) (MK.get t5 2 rfl) (HL1.out _) (HL1.out _) (by omega) HF1.out).mono ?_
    rintro e y5 ⟨rfl, hbl⟩
    have t6 := MT.next t5 hbl
    clear t5 hbl
    go_wp2_with fail
    refine (rfiner_at y5 B B3 n n n P (Mc.rnd M (k + 1)) (MK.get t6 3 rfl) (MK.get t6 1 rfl) HPL.out (HL1.out _) (by omega) HF2.out).mono ?_
    rintro e y6 ⟨rfl, hbl⟩
    have hbF := Lib.hid (below_next t6.2.1 hbl)
    clear t6 hbl
    go_wp2_with fail
    refine (lives_walk _).mono ?_
    rintro e y7 ⟨rfl, hb⟩
    go_wp2_with fail
    go_ret
    exact ⟨rfl, below_next hbF.out hb⟩
end Go.Proofs.Ytonnplhiaidjnaa
