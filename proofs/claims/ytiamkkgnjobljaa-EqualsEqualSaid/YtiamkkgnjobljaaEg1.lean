/-
  The walk of EqualsEqual, given what D.Of hands back. No statement is proved here.
-/
import Derived.Test.YtiamkkgnjobljaaDof
import Derived.Test.YtiamkkgnjobljaaEr0
import Derived.Test.YtiamkkgnjobljaaQA
import Derived.Test.YtiamkkgnjobljaaEqN
import Derived.Test.YtiamkkgnjobljaaTwZ
import Derived.Deep.RegionHeld3
import Derived.Deep.CutRange
namespace Go.Proofs.Ytiamkkgnjobljaa
open Go.RowKit
open Mc (Ed Ma Wv)

theorem size_drewE (x : World) : x.drew.heap.size = x.heap.size := rfl
theorem ge_suc {n m : Nat} (h : n ≤ m) : n ≤ m + 1 := Nat.le_succ_of_le h
theorem ge_al {n : Nat} {w : World} (h : n ≤ w.heap.size) (o : Obj) : n ≤ (w.alloc o).heap.size := by rw [World.size_alloc]; omega
theorem ge_dr {n : Nat} {w : World} (h : n ≤ w.heap.size) : n ≤ w.drew.heap.size := h
theorem ge_be {n : Nat} {w w' : World} (h : n ≤ w.heap.size) (k : Below w.heap.size w w') : n ≤ w'.heap.size := Nat.le_trans h k.size
theorem lt_al0 {n : Nat} {w : World} (h : n ≤ w.heap.size) (o : Obj) : n < (w.alloc o).heap.size := by rw [World.size_alloc]; omega
theorem lt_al1 (w : World) (o o' : Obj) : w.heap.size + 1 < ((w.alloc o).alloc o').heap.size := by rw [World.size_alloc, World.size_alloc]; omega
theorem lt_al {n : Nat} {w : World} (h : n < w.heap.size) (o : Obj) : n < (w.alloc o).heap.size := by rw [World.size_alloc]; omega
theorem lt_dr {n : Nat} {w : World} (h : n < w.heap.size) : n < w.drew.heap.size := h
theorem lt_be {n : Nat} {w w' : World} (h : n < w.heap.size) (k : Below w.heap.size w w') : n < w'.heap.size := Nat.lt_of_lt_of_le h k.size
theorem szE1 {w w' : World} {o : Obj} (h : Below (w.alloc o).heap.size (w.alloc o) w') : w.heap.size + 1 ≤ w'.heap.size := by have := h.size; rw [World.size_alloc] at this; exact this
theorem szE2 {w w' : World} {o o' : Obj} (h : Below ((w.alloc o).alloc o').heap.size ((w.alloc o).alloc o') w') : w.heap.size + 2 ≤ w'.heap.size := by have := h.size; rw [World.size_alloc, World.size_alloc] at this; exact this
theorem sym_wdE {m : Ma} {i : Int} {zs : List Int} (hi : m.i = i) (h1 : 1 ≤ i) : Mc.Wd m (M.sym i zs) := by
  intro c hc
  have hc : c ∈ (zs.take 12).map (· % i) := hc
  obtain ⟨z, _, rfl⟩ := List.mem_map.1 hc
  rw [hi]
  exact ⟨Int.emod_nonneg _ (by omega), Int.emod_lt_of_pos _ (by omega)⟩
theorem sym_lenE (i : Int) (zs : List Int) : (M.sym i zs).length ≤ 12 := by
  show ((zs.take 12).map (· % i)).length ≤ 12
  rw [List.length_map, List.length_take]; omega
theorem wof_atE (A : Option Addr) (c : Nat) (zs : List Int) (n : Nat) (w : World) (h : Rd8 w A zs) (h1 : 1 ≤ n) (h2 : n ≤ 16) (hm : zs.length ≤ 9223372036854775807) :
    Calls Try.prog 14 #[.agg #[.slice A zs.length c], .int .i64 n] w fun e w' => ∃ B k q, e = .returned (.slice B k q) ∧ Hid ((M.sym n zs).length = k) ∧ k ≤ 12 ∧ Rd w' B (M.sym n zs) ∧ Below w.heap.size w w' := by
  refine (of_any A c zs n w h (by omega) (by omega) hm).mono ?_
  rintro e w' ⟨B, q, rfl, hrd, hc, hb⟩
  exact ⟨B, _, q, rfl, rfl, sym_lenE _ _, hrd, hb⟩
/-- What is known behind the two minimal forms. -/
structure MnR (w : World) (a b : Ma) (G H : Nat) (R S : Option Addr) (n m c d : Nat) (i o i' o' : Int) (wx : World) : Prop where
  ne : G ≠ H
  bg : BxM wx G i o R n c
  bh : BxM wx H i' o' S m d
  ra : ∃ base vs, Bld wx base (.slice R n c) a.r vs
  rb : ∃ base vs, Bld wx base (.slice S m d) b.r vs
  lo : w.heap.size ≤ H
  bel : Below w.heap.size w wx
theorem own_notM {w : World} {base : Nat} {V : Value} {n b : Nat} {e t : TypeId} {sz : Nat} {vs : List Value} {cs : Array Value} {fr : Nat × Nat} (h : w.ownsRow base e sz V n vs) (hc : w.heap[b]? = some (.cells cs t fr)) (ht : t ≠ e) : V.ownBlock = none ∨ V.ownBlock ≠ some b := by
  rcases h.2 with ⟨rfl, _⟩ | ⟨g, c, cu, rfl, _, hg, _⟩
  · exact .inl rfl
  · refine .inr fun e1 => ?_
    simp [Value.ownBlock] at e1
    subst e1
    rw [hg] at hc
    injection hc with hc
    injection hc with _ h2 _
    exact ht h2.symm
/-- Rows stay where a number of a machine is written. -/
theorem Bld.farM {w : World} {base H k : Nat} {V : Value} {rs : List (List Ed)} {vs : List Value} {cs : Array Value} {fr : Nat × Nat} (h : Bld w base V rs vs) (hH : w.heap[H]? = some (.cells cs 35 fr)) (v : Value) : Bld (w.setCell ⟨H, k, none⟩ v) base V rs vs :=
  ⟨h.1.kept (grown_setCell w ⟨H, k, none⟩ v) (own_notM h.1 hH (by decide)), fun j row hj => by
    obtain ⟨g, c, h1, h2⟩ := h.2 j row hj
    exact ⟨g, c, h1, h2.kept (grown_setCell w ⟨H, k, none⟩ v) (own_notM h2 hH (by decide))⟩⟩
theorem BxM.far {w : World} {g g' k n c : Nat} {i o : Int} {A : Option Addr} (y : BxM w g i o A n c) (hne : g ≠ g') (v : Value) : BxM (w.setCell ⟨g', k, none⟩ v) g i o A n c := (Below.heap_setCell _ _ _ _ hne).trans y
theorem BxM.setO {w : World} {g n c : Nat} {i o o' : Int} {A : Option Addr} (y : BxM w g i o A n c) : BxM (w.setCell ⟨g, 1, none⟩ (.int .i64 o')) g i o' A n c := by
  unfold BxM at y ⊢
  simp [World.setCell, Array.getElem?_modify, y]
set_option maxRecDepth 100000 in
set_option maxHeartbeats 4000000 in
theorem eequ_walk (a b d a2 b2 d2 s0 s1 p0 p1 tx ty : Int) (q q2 al : Bool) (A A2 : Option Addr) (EL c EL2 c2 : Nat) (WB : Option Addr) (wk9 : Nat) (ws : List Int) (w : World) (hr8 : Rd8 w WB ws) (hlw : ws.length ≤ 9223372036854775807)
    (HD : ∀ w', Below w.heap.size w w' → Calls Try.prog 13 #[.agg #[.int .u8 a, .int .u8 b, .int .u8 d, .bool q, .slice A EL c, .int .u8 a2, .int .u8 b2, .int .u8 d2, .bool q2, .slice A2 EL2 c2, .bool al, .int .u8 s0, .int .u8 s1, .int .u8 p0, .int .u8 p1, .int .i64 tx, .int .i64 ty]] w' (DoP w')) :
    Calls Try.prog 3 #[.agg #[.int .u8 a, .int .u8 b, .int .u8 d, .bool q, .slice A EL c, .int .u8 a2, .int .u8 b2, .int .u8 d2, .bool q2, .slice A2 EL2 c2, .bool al, .int .u8 s0, .int .u8 s1, .int .u8 p0, .int .u8 p1, .int .i64 tx, .int .i64 ty], .agg #[.slice WB ws.length wk9]] w fun e w' => e = .returned (.bool true) ∧ Below w.heap.size w w' := by
  obtain ⟨EW, hEW⟩ : ∃ EW, ws.length = EW := ⟨_, rfl⟩
  have HEW := Lib.hid hEW
  have HLW := Lib.hid hlw
  rw [hEW]
  clear hEW hlw
  obtain ⟨h, hh⟩ : ∃ h, w.heap.size = h := ⟨_, rfl⟩
  have hb0 : Below w.heap.size w ((w.alloc (.cells #[.int .u8 a, .int .u8 b, .int .u8 d, .bool q, .slice A EL c, .int .u8 a2, .int .u8 b2, .int .u8 d2, .bool q2, .slice A2 EL2 c2, .bool al, .int .u8 s0, .int .u8 s1, .int .u8 p0, .int .u8 p1, .int .i64 tx, .int .i64 ty] 29)).alloc (.cells #[.slice WB EW wk9] 32)) := ((Below.refl _ _).alloc (Nat.le_refl _) _).alloc (by simp) _
  have hWb : ((w.alloc (.cells #[.int .u8 a, .int .u8 b, .int .u8 d, .bool q, .slice A EL c, .int .u8 a2, .int .u8 b2, .int .u8 d2, .bool q2, .slice A2 EL2 c2, .bool al, .int .u8 s0, .int .u8 s1, .int .u8 p0, .int .u8 p1, .int .i64 tx, .int .i64 ty] 29)).alloc (.cells #[.slice WB EW wk9] 32)).heap[h + 1]? = some (.cells #[.slice WB EW wk9] 32) := by
    have h1 := heap_alloc_new (w.alloc (.cells #[.int .u8 a, .int .u8 b, .int .u8 d, .bool q, .slice A EL c, .int .u8 a2, .int .u8 b2, .int .u8 d2, .bool q2, .slice A2 EL2 c2, .bool al, .int .u8 s0, .int .u8 s1, .int .u8 p0, .int .u8 p1, .int .i64 tx, .int .i64 ty] 29)) (.cells #[.slice WB EW wk9] 32)
    rw [World.size_alloc, hh] at h1
    exact h1
  obtain ⟨Wi, hWi⟩ : ∃ Wi, (w.alloc (.cells #[.int .u8 a, .int .u8 b, .int .u8 d, .bool q, .slice A EL c, .int .u8 a2, .int .u8 b2, .int .u8 d2, .bool q2, .slice A2 EL2 c2, .bool al, .int .u8 s0, .int .u8 s1, .int .u8 p0, .int .u8 p1, .int .i64 tx, .int .i64 ty] 29)).alloc (.cells #[.slice WB EW wk9] 32) = Wi := ⟨_, rfl⟩
  rw [hWi] at hb0 hWb
  have HWB := Lib.hid hWb
  have HR8 := Lib.hid hr8
  have HWI := Lib.hid hWi
  clear hr8 hWb hWi
  have HDD := Lib.hid (HD _ hb0)
  have HB0 := Lib.hid hb0
  clear hb0 HD
  go_enter Try.func3, Try.ntmps3
  go_wp2_with fail
  rw [HWI.out]
  refine HDD.out.mono ?_
  rintro e w1 ⟨m, m2, i, ao, bo, X, Y, n, k, n2, k2, rfl, hrx, hry, hn, hn2, va, vb, hi, hi2, ho, ho2, hn6, hn26, hb1⟩
  obtain ⟨g, hg⟩ : ∃ g, w1.heap.size = g := ⟨_, rfl⟩
  obtain ⟨W2, hW2⟩ : ∃ W2, boxM (boxM w1 i ao X n k) i bo Y n2 k2 = W2 := ⟨_, rfl⟩
  have hb2 : Below w1.heap.size w1 W2 := by rw [← hW2]; exact ((Below.refl _ _).alloc (Nat.le_refl _) _).alloc (by simp) _
  have hMA : BxM W2 g i ao X n k := by rw [← hW2]; exact (BxM.newE hg i ao X n k).mvB ((Below.refl _ _).alloc (Nat.le_refl _) _)
  have hMB : BxM W2 (g + 1) i bo Y n2 k2 := by rw [← hW2]; exact BxM.newE (by simp [boxM, hg]) i bo Y n2 k2
  have HRX := Lib.hid (hrx.below hb2)
  have HRY := Lib.hid (hry.below hb2)
  have HB2 := Lib.hid (below_next (below_next HB0.out hb1) hb2)
  have HBI := Lib.hid (below_next hb1 hb2)
  have HVA := Lib.hid va
  have HVB := Lib.hid vb
  have hii : Hid (m.i = m2.i) := by show _ = _; rw [hi, hi2]
  have HE : Hid (ech m m2 = 0) := ech_zero va vb hii.out
  have hsum : m.r.length + m2.r.length ≤ 64 := by omega
  have HSUM := Lib.hid hsum
  have HN := Lib.hid hn
  have HN2 := Lib.hid hn2
  have HW2' := Lib.hid hW2
  have HG2 := Lib.hid hg
  have CE : Hid (∀ wr, Below W2.heap.size W2 wr → Calls Try.prog 15 #[.agg #[.int .i64 i, .int .i64 ao, .slice X n k], .agg #[.int .i64 i, .int .i64 bo, .slice Y n2 k2]] wr (EquP wr m m2)) := fun wr hb => by
    have h1 := eequal_any m m2 X Y n k n2 k2 wr (HRX.out.below hb) hn (by omega) va.rowsE (HRY.out.below hb) hn2 (by omega) vb.rowsE
    rw [hi, hi2, ho, ho2] at h1
    exact h1
  have CW : Hid (∀ wr, Below w.heap.size w wr → Calls Try.prog 14 #[.agg #[.slice WB EW wk9], .int .i64 i] wr fun e w' => ∃ B k q, e = .returned (.slice B k q) ∧ Hid ((M.sym i ws).length = k) ∧ k ≤ 12 ∧ Rd w' B (M.sym i ws) ∧ Below wr.heap.size wr w') := fun wr hb => by
    rw [← HEW.out]
    exact wof_atE WB wk9 ws i wr (HR8.out.below hb) (by have := va.i0; omega) (by have := va.i1; omega) HLW.out
  obtain ⟨N1, hN1⟩ : ∃ N1, (Mc.qn m).r.length = N1 := ⟨_, rfl⟩
  obtain ⟨N2, hN2'⟩ : ∃ N2, (Mc.qn m2).r.length = N2 := ⟨_, rfl⟩
  have CA : Hid (∀ wr, Below W2.heap.size W2 wr → Calls Try.prog 16 #[.agg #[.int .i64 i, .int .i64 ao, .slice X n k]] wr fun e w' => ∃ B k9 vs, e = .returned (.agg #[.int .i64 i, .int .i64 ao, .slice B N1 k9]) ∧ Hid (Bld w' wr.heap.size (.slice B N1 k9) (Mc.qn m).r vs) ∧ Below wr.heap.size wr w') := fun wr hb => by
    refine (rqmin_any m i ao X n k wr va hi ho hn (HRX.out.below hb)).mono ?_
    rintro e w' ⟨V9, vs, rfl, hB, hbl⟩
    obtain ⟨B, k9, rfl, _⟩ := hB.out.rd
    rw [hN1] at hB ⊢
    exact ⟨B, k9, vs, rfl, hB, hbl⟩
  have CB : Hid (∀ wr, Below W2.heap.size W2 wr → Calls Try.prog 16 #[.agg #[.int .i64 i, .int .i64 bo, .slice Y n2 k2]] wr fun e w' => ∃ B k9 vs, e = .returned (.agg #[.int .i64 i, .int .i64 bo, .slice B N2 k9]) ∧ Hid (Bld w' wr.heap.size (.slice B N2 k9) (Mc.qn m2).r vs) ∧ Below wr.heap.size wr w') := fun wr hb => by
    refine (rqmin_any m2 i bo Y n2 k2 wr vb hi2 ho2 hn2 (HRY.out.below hb)).mono ?_
    rintro e w' ⟨V9, vs, rfl, hB, hbl⟩
    obtain ⟨B, k9, rfl, _⟩ := hB.out.rd
    rw [hN2'] at hB ⊢
    exact ⟨B, k9, vs, rfl, hB, hbl⟩
  have CR : Hid (∀ (wr : World) (U : Option Addr) (q q' : Nat) (u : List Int), Below W2.heap.size W2 wr → u.length = q → Rd wr U u → Mc.Wd m u → q ≤ 65536 → Calls Try.prog 19 #[.agg #[.int .i64 i, .int .i64 ao, .slice X n k], .int .i64 0, .slice U q q'] wr fun e w' => ∃ B q9, e = .returned (.slice B q q9) ∧ Rd w' B (Mc.run m 0 u) ∧ Below wr.heap.size wr w') := fun wr U q q' u hb hq hu hwd hl => by
    subst hq
    exact rrun_at m i ao X n k wr 0 U u.length q' u va hi ho hn rfl (HRX.out.below hb) hu (Mc.zero_st va) hwd hl
  have CS : Hid (∀ (wr : World) (U : Option Addr) (q q' : Nat) (u : List Int), Below W2.heap.size W2 wr → u.length = q → Rd wr U u → Mc.Wd m2 u → q ≤ 65536 → Calls Try.prog 19 #[.agg #[.int .i64 i, .int .i64 bo, .slice Y n2 k2], .int .i64 0, .slice U q q'] wr fun e w' => ∃ B q9, e = .returned (.slice B q q9) ∧ Rd w' B (Mc.run m2 0 u) ∧ Below wr.heap.size wr w') := fun wr U q q' u hb hq hu hwd hl => by
    subst hq
    exact rrun_at m2 i bo Y n2 k2 wr 0 U u.length q' u vb hi2 ho2 hn2 rfl (HRY.out.below hb) hu (Mc.zero_st vb) hwd hl
  obtain ⟨u, hu⟩ : ∃ u, M.sym i ws = u := ⟨_, rfl⟩
  have HWA : Hid (Mc.Wd m u) := by show Mc.Wd _ _; rw [← hu]; exact sym_wdE (by rw [hi]) (by have := va.i0; omega)
  have HWC : Hid (Mc.Wd m2 u) := HWA.out.of_i hii.out
  rw [hu] at CW
  have HIM := Lib.hid hi
  have HIM2 := Lib.hid hi2
  have HOM := Lib.hid ho
  have HN1 := Lib.hid hN1
  have HN2' := Lib.hid hN2'
  have CQ : Hid (∀ (is : Bool) (P Q : Option Addr) (kp kq : Nat) (wr : World), (is = true ↔ Mc.Sim m m2) → RdR wr P (Mc.qn m).r → RdR wr Q (Mc.qn m2).r → Calls Try.prog 17 #[.agg #[.int .i64 i, .int .i64 ao, .slice P N1 kp], .agg #[.int .i64 i, .int .i64 ao, .slice Q N2 kq]] wr fun e w' => e = .returned (.bool is) ∧ Below wr.heap.size wr w') := fun is P Q kp kq wr his hP hQ => by
    have v1 := Mc.qn_val HVA.out
    have h1 := rmsame_at (Mc.qn m) (Mc.wo (Mc.qn m2) ao) i ao i ao P Q N1 kp N2 kq wr (by rw [Mc.qn_i]; exact HIM.out) (by rw [Mc.qn_o]; exact HOM.out) (by show (Mc.qn m2).i = _; rw [Mc.qn_i]; exact HIM2.out) rfl HN1.out HN2'.out hP hQ (by rw [← HN1.out]; have := v1.r1; omega) (fun row hr => by have := v1.len row hr; have := v1.i1; omega)
    have h2 : decide (Mc.qn m = Mc.wo (Mc.qn m2) ao) = is := by
      have h3 : (Mc.qn m = Mc.wo (Mc.qn m2) ao) ↔ Mc.Sim m m2 := by
        rw [Mc.sim_qn HVA.out HVB.out hii.out]
        constructor
        · intro e
          have e2 := congrArg Ma.r e
          exact e2
        · intro e
          have ha : Mc.qn m = ⟨(Mc.qn m).i, (Mc.qn m).o, (Mc.qn m).r⟩ := rfl
          rw [ha, e, Mc.qn_i, Mc.qn_o, HIM.out, HOM.out]
          show _ = (⟨(Mc.qn m2).i, ao, (Mc.qn m2).r⟩ : Ma)
          rw [Mc.qn_i, HIM2.out]
      cases is with
      | true => exact decide_eq_true (h3.2 (his.1 rfl))
      | false => exact decide_eq_false (fun e => by have := his.2 (h3.1 e); cases this)
    rwa [h2] at h1
  have hs2 : Hid (W2.heap.size = g + 2) := by show _ = _; rw [← HW2'.out, ← HG2.out]; simp [boxM]
  have HMA := Lib.hid hMA
  have HMB := Lib.hid hMB
  have HW2 := Lib.hid hW2
  clear hb1 hb2 hrx hry hMA hMB hW2 va vb hi hi2 ho ho2 hn hn2 hsum HB0 HDD
  go_upto_region 2 with fail
  try rw [hg]
  change Code.wp _ _ _ _ (boxM (boxM w1 i ao X n k) i bo Y n2 k2)
  rw [HW2.out]
  clear HW2 hg HW2' HG2
  obtain ⟨x0, x1, x2⟩ := HMA.out.cells
  obtain ⟨y0, y1, y2⟩ := HMB.out.cells
  have l0 : W2.cell? ⟨h + 1, 0, none⟩ = some (.slice WB EW wk9) := by
    have h1 := (HBI.out.block _ (heap_lt HWB.out)).trans HWB.out
    rw [cell_of_row _ _ _ _ _ _ h1]; rfl
  go_wp2_with fail
  refine (CW.out _ HB2.out).mono ?_
  rintro e w3 ⟨UB, ku, qu, rfl, hku, h12, hru, hb3⟩
  have HRU := Lib.hid hru
  have HB3 := Lib.hid hb3
  clear hru hb3 x0 x1 x2 y0 y1 y2 l0 CW
  obtain ⟨x0, x1, x2⟩ := (HMA.out.mvB HB3.out).cells
  obtain ⟨y0, y1, y2⟩ := (HMB.out.mvB HB3.out).cells
  go_wp2_with fail
  refine (CE.out _ HB3.out).mono ?_
  rintro e w4 ⟨hb4, is, z1, rfl, hz4, _, his⟩
  rw [HE.out] at hz4
  subst hz4
  have HIS := Lib.hid (his (by first | trivial | rfl))
  have HRU4 := Lib.hid (HRU.out.below hb4)
  have HB4 := Lib.hid (below_next HB3.out hb4)
  clear hb4 his x0 x1 x2 y0 y1 y2 CE HRU HB3
  have HA4 := Lib.hid (HMA.out.mvB HB4.out)
  have HBB4 := Lib.hid (HMB.out.mvB HB4.out)
  have hKS : ∀ W' : World, Below w4.heap.size w4 W' → (W'.cell? ⟨g, 0, none⟩ = some (.int .i64 i) ∧ W'.cell? ⟨g, 1, none⟩ = some (.int .i64 ao) ∧ W'.cell? ⟨g, 2, none⟩ = some (.slice X n k) ∧ W'.cell? ⟨g + 1, 0, none⟩ = some (.int .i64 i) ∧ W'.cell? ⟨g + 1, 1, none⟩ = some (.int .i64 bo) ∧ W'.cell? ⟨g + 1, 2, none⟩ = some (.slice Y n2 k2)) := fun W' hb => by
    obtain ⟨a0, a1, a2⟩ := (HA4.out.mvB hb).cells
    obtain ⟨b0, b1, b2⟩ := (HBB4.out.mvB hb).cells
    exact ⟨a0, a1, a2, b0, b1, b2⟩
  have HKS := Lib.hid hKS
  obtain ⟨x0, x1, x2, y0, y1, y2⟩ := hKS _ (Below.refl _ _)
  clear hKS
  go_upto_region 4 with fail
  go_cut [10, 11] from 27 to 58 (fun u v wx => ∃ (G H : Nat) (R S : Option Addr) (c1 c2 : Nat), u = .pointer (some ⟨G, 0, none⟩) ∧ v = .pointer (some ⟨H, 0, none⟩) ∧ Hid (MnR w4 (Mc.qn m) (Mc.qn m2) G H R S N1 N2 c1 c2 i ao i bo wx))
  case first =>
    refine two_boxes (w4 := w4) (t0 := 27) (t1 := 28) (t2 := 29) (t3 := 30) (t4 := 10) (t5 := 11) (vA := .agg #[.int .i64 i, .int .i64 ao, .slice X n k]) (vB := .agg #[.int .i64 i, .int .i64 bo, .slice Y n2 k2]) (i := i) (o := ao) (i' := i) (o' := bo) (n := N1) (m := N2) (ra := (Mc.qn m).r) (rb := (Mc.qn m2).r) (he := rfl) (hm := by kernel_rfl) (hb := by kernel_rfl) (hn := by kernel_rfl) (hd := ⟨rfl, rfl, rfl, rfl, rfl, rfl, rfl, rfl⟩) (hg := ⟨rfl, rfl, rfl, rfl, rfl, rfl, rfl, rfl⟩) (hnd := by decide) (hlt := fun t ht => ?lt) (hw := ?bw) (k0 := fun a w hb hf => load_yields rfl (hf 5 (by decide) (by decide) (by decide) (by decide) (by decide) (by decide)) (HA4.out.mvB hb)) (k2 := fun a w hb hf => load_yields rfl (hf 6 (by decide) (by decide) (by decide) (by decide) (by decide) (by decide)) (HBB4.out.mvB hb)) (k1 := fun a wr hb hv => ?k1) (k3 := fun a wr hb hv => ?k3) (k4 := rfl) (k5 := rfl) (k6 := rfl) (k7 := rfl) (hend := fun G H R S c1 c2 wx hR => ?ends)
    case lt =>
      have h30 : t ≤ 30 := by simp at ht; omega
      show t < 59
      omega
    case bw => repeat (with_reducible (first | exact Below.refl _ _ | refine bD ?_))
    case k1 =>
      have hv' : a.tmps[27]?.getD undef = .agg #[.int .i64 i, .int .i64 ao, .slice X n k] := by simpa using hv
      unfold yieldsM
      simp [go_sem, hv']
      refine (CA.out _ (below_next HB4.out hb)).mono ?_
      rintro e w' ⟨B, k9, vs, rfl, hB, hbl⟩
      exact ⟨_, rfl, B, k9, rfl, ⟨_, vs, hB.out⟩, hbl⟩
    case k3 =>
      have hv' : a.tmps[29]?.getD undef = .agg #[.int .i64 i, .int .i64 bo, .slice Y n2 k2] := by simpa using hv
      unfold yieldsM
      simp [go_sem, hv']
      refine (CB.out _ (below_next HB4.out hb)).mono ?_
      rintro e w' ⟨B, k9, vs, rfl, hB, hbl⟩
      exact ⟨_, rfl, B, k9, rfl, ⟨_, vs, hB.out⟩, hbl⟩
    case ends =>
      simp [Act.put]
      go_wp2_with fail
      go_meet
      exact ⟨G, H, R, S, c1, c2, rfl, rfl, ⟨hR.ne, hR.bg, hR.bh, hR.ra, hR.rb, hR.lo, hR.bel⟩⟩
  case rest =>
  obtain ⟨G, H, R, S, c1, c2, rfl, rfl, hS⟩ := hcut
  clear CA CB HKS x0 x1 x2 y0 y1 y2
  obtain ⟨r0, r1, r2⟩ := hS.out.bg.cells
  obtain ⟨t0, t1, t2⟩ := hS.out.bh.cells
  obtain ⟨t3, t4, t5⟩ := BxM.frozen hS.out.bh
  obtain ⟨W5, hW5⟩ : ∃ W5, wc.setCell ⟨H, 1, none⟩ (.int .i64 ao) = W5 := ⟨_, rfl⟩
  have hbH : BxM W5 H i ao S N2 c2 := by rw [← hW5]; exact hS.out.bh.setO
  have hbG : BxM W5 G i ao R N1 c1 := by rw [← hW5]; exact BxM.far hS.out.bg hS.out.ne _
  have HRR : Hid (RdR W5 R (Mc.qn m).r) := by
    obtain ⟨bs, vs, hB⟩ := hS.out.ra
    show RdR _ _ _
    rw [← hW5]
    exact (hB.farM hS.out.bh _).two
  have HSS : Hid (RdR W5 S (Mc.qn m2).r) := by
    obtain ⟨bs, vs, hB⟩ := hS.out.rb
    show RdR _ _ _
    rw [← hW5]
    exact (hB.farM hS.out.bh _).two
  have HB5 : Hid (Below w4.heap.size w4 W5) := by show Below _ _ _; rw [← hW5]; exact hS.out.bel.setCell (p := ⟨H, 1, none⟩) hS.out.lo _
  have HU5 := Lib.hid (HRU4.out.below HB5.out)
  have HBG := Lib.hid hbG
  have HBH := Lib.hid hbH
  have HA5 := Lib.hid (HA4.out.mvB HB5.out)
  have HBB5 := Lib.hid (HBB4.out.mvB HB5.out)
  have HB25 := Lib.hid (below_next HB4.out HB5.out)
  go_upto_region 6 with fail
  try rw [hW5]
  clear hW5 r0 r1 r2 t0 t1 t2 t3 t4 t5 hS hbG hbH
  have HS : ∀ W : World, Below W5.heap.size W5 W → (W.cell? ⟨g, 0, none⟩ = some (.int .i64 i) ∧ W.cell? ⟨g, 1, none⟩ = some (.int .i64 ao) ∧ W.cell? ⟨g, 2, none⟩ = some (.slice X n k) ∧ W.cell? ⟨g + 1, 0, none⟩ = some (.int .i64 i) ∧ W.cell? ⟨g + 1, 1, none⟩ = some (.int .i64 bo) ∧ W.cell? ⟨g + 1, 2, none⟩ = some (.slice Y n2 k2) ∧ W.cell? ⟨G, 0, none⟩ = some (.int .i64 i) ∧ W.cell? ⟨G, 1, none⟩ = some (.int .i64 ao) ∧ W.cell? ⟨G, 2, none⟩ = some (.slice R N1 c1) ∧ W.cell? ⟨H, 0, none⟩ = some (.int .i64 i) ∧ W.cell? ⟨H, 1, none⟩ = some (.int .i64 ao) ∧ W.cell? ⟨H, 2, none⟩ = some (.slice S N2 c2)) := fun W hb => by
    obtain ⟨a0, a1, a2⟩ := (HA5.out.mvB hb).cells
    obtain ⟨b0, b1, b2⟩ := (HBB5.out.mvB hb).cells
    obtain ⟨d0, d1, d2⟩ := (HBG.out.mvB hb).cells
    obtain ⟨e0, e1, e2⟩ := (HBH.out.mvB hb).cells
    exact ⟨a0, a1, a2, b0, b1, b2, d0, d1, d2, e0, e1, e2⟩
  have s0 := HS _ (Below.refl _ _)
  have sD := HS W5.drew (Below.refl _ _).drew
  obtain ⟨a0, a1, a2, b0, b1, b2, d0, d1, d2, e0, e1, e2⟩ := HS _ (Below.refl _ _)
  have HD : Hid (Below W5.heap.size W5 W5.drew) := (Below.refl _ _).drew
  have hku' : Hid (u.length = ku) := hku
  have hku6 : ku ≤ 65536 := by omega
  cases is with
  | false =>
    have f0 : ∀ x : BW W5, x.out.cell? ⟨G, 0, none⟩ = some (.int .i64 i) := fun x => (HBG.out.mvB x.ok).cells.1
    have f1 : ∀ x : BW W5, x.out.cell? ⟨G, 1, none⟩ = some (.int .i64 ao) := fun x => (HBG.out.mvB x.ok).cells.2.1
    have f2 : ∀ x : BW W5, x.out.cell? ⟨G, 2, none⟩ = some (.slice R N1 c1) := fun x => (HBG.out.mvB x.ok).cells.2.2
    have f3 : ∀ x : BW W5, x.out.cell? ⟨H, 0, none⟩ = some (.int .i64 i) := fun x => (HBH.out.mvB x.ok).cells.1
    have f4 : ∀ x : BW W5, x.out.cell? ⟨H, 1, none⟩ = some (.int .i64 ao) := fun x => (HBH.out.mvB x.ok).cells.2.1
    have f5 : ∀ x : BW W5, x.out.cell? ⟨H, 2, none⟩ = some (.slice S N2 c2) := fun x => (HBH.out.mvB x.ok).cells.2.2
    clear HS s0 sD a0 a1 a2 b0 b1 b2 d0 d1 d2 e0 e1 e2
    refine wp_region_quiet_below (by kernel_rfl) (by kernel_rfl) ?_
    repeat (go_big_quiet_step ((rename_i x; first
      | ((with_reducible refine (CQ.out false R S c1 c2 _ HIS.out (HRR.out.below x.ok) (HSS.out.below x.ok)).mono ?_); rintro e w2 ⟨rfl, hb2⟩; exact ⟨rfl, ⟨w2, below_next x.ok hb2⟩, rfl⟩)
      | ((with_reducible refine (elives_walk _).mono ?_); rintro e w2 ⟨rfl, hb2⟩; exact ⟨rfl, ⟨w2, below_next x.ok hb2⟩, rfl⟩)
      | fail)))
    refine wpQuiet_nil ?_
    intro w11 hw11
    obtain ⟨⟨wx, hbW⟩, hw3⟩ := hw11
    dsimp only at hw3
    subst hw3
    clear f0 f1 f2 f3 f4 f5
    have hfin := Lib.hid (below_next HB2.out (below_next HB4.out (below_next HB5.out hbW)))
    go_wp2_with fail
    go_ret
    exact ⟨rfl, by rw [← hh]; exact hfin.out⟩
  | true =>
    have hsim := HIS.out.1 rfl
    have hrr : Hid (Mc.run m 0 u = Mc.run m2 0 u) := hsim.run u HWA.out
    have CT : Hid (∀ (wr : World) (P Q : Option Addr) (dp dq : Nat), Rd wr P (Mc.run m 0 u) → Rd wr Q (Mc.run m2 0 u) → Calls Try.prog 18 #[.slice P ku dp, .slice Q ku dq] wr fun e w' => e = .returned (.bool true) ∧ Below wr.heap.size wr w') := fun wr P Q dp dq h1 h2 => by
      have h := same_at wr P Q ku dp dq _ _ h1 h2 ((Mc.run_len _ _ _).trans hku'.out) ((Mc.run_len _ _ _).trans hku'.out) (by omega)
      rwa [Go.Proofs.Ytiamkkgnjobljaa.M.same_yes hrr.out] at h
    go_region_held3 (fun W => W.cell? ⟨g, 0, none⟩ = some (.int .i64 i) ∧ W.cell? ⟨g, 1, none⟩ = some (.int .i64 ao) ∧ W.cell? ⟨g, 2, none⟩ = some (.slice X n k) ∧ W.cell? ⟨g + 1, 0, none⟩ = some (.int .i64 i) ∧ W.cell? ⟨g + 1, 1, none⟩ = some (.int .i64 bo) ∧ W.cell? ⟨g + 1, 2, none⟩ = some (.slice Y n2 k2) ∧ W.cell? ⟨G, 0, none⟩ = some (.int .i64 i) ∧ W.cell? ⟨G, 1, none⟩ = some (.int .i64 ao) ∧ W.cell? ⟨G, 2, none⟩ = some (.slice R N1 c1) ∧ W.cell? ⟨H, 0, none⟩ = some (.int .i64 i) ∧ W.cell? ⟨H, 1, none⟩ = some (.int .i64 ao) ∧ W.cell? ⟨H, 2, none⟩ = some (.slice S N2 c2))
      (first | (with_reducible exact s5) | (with_reducible exact s4) | (with_reducible exact s3) | (with_reducible exact s2) | (with_reducible exact s1) | (with_reducible exact s0) | (with_reducible exact sD) | go_keep)
      (first
        | (go_at_call 17
           (with_reducible refine (CQ.out true R S c1 c2 _ HIS.out (HRR.out.below HD.out) (HSS.out.below HD.out)).mono ?_)
           rintro e z1 ⟨rfl, hz1⟩
           have t1 := Lib.hid (below_next HD.out hz1)
           have s1 := HS _ t1.out
           dsimp only)
        | (go_at_call 19
           (with_reducible refine (CR.out _ _ _ _ u (below_next HB25.out t1.out) hku'.out (HU5.out.below t1.out) HWA.out hku6).mono ?_)
           rintro e z2 ⟨P2, q2', rfl, hr2, hz2⟩
           have t2 := Lib.hid (below_next t1.out hz2)
           have g2 := Lib.hid hr2
           have s2 := HS _ t2.out
           dsimp only)
        | (go_at_call 19
           (with_reducible refine (CS.out _ _ _ _ u (below_next HB25.out t2.out) hku'.out (HU5.out.below t2.out) HWC.out hku6).mono ?_)
           rintro e z3 ⟨P3, q3, rfl, hr3, hz3⟩
           have t3 := Lib.hid (below_next t2.out hz3)
           have g3 := Lib.hid hr3
           have g2b := Lib.hid (g2.out.below hz3)
           have s3 := HS _ t3.out
           dsimp only)
        | (go_at_call 18
           (with_reducible refine (CT.out _ _ _ _ _ g2b.out g3.out).mono ?_)
           rintro e z4 ⟨rfl, hz4⟩
           have t4 := Lib.hid (below_next t3.out hz4)
           have s4 := HS _ t4.out
           dsimp only)
        | (go_at_call 20
           (with_reducible refine (elives_walk _).mono ?_)
           rintro e z5 ⟨rfl, hz5⟩
           have tL := Lib.hid (below_next t4.out hz5)
           have s5 := HS _ tL.out
           dsimp only)
        | fail)
    all_goals
      go_wp2_with fail
      go_ret
      exact ⟨rfl, by rw [← hh]; exact below_next HB2.out (below_next HB4.out (below_next HB5.out tL.out))⟩
end Go.Proofs.Ytiamkkgnjobljaa
