/-
  The walk of the law MachinesShape. No statement is proved here.
-/
import Derived.Test.YtiohfflkolopeaaMc12
import Derived.Test.YtiohfflkolopeaaMs0
import Derived.Deep.QuietTactic
import Derived.BigQuiet
namespace Go.Proofs.Ytiohfflkolopeaa
open Go.RowKit
open Mc (Ed Ma)

/-- A world in which nothing below wr's heap has changed. -/
structure BW (wr : World) where
  out : World
  ok : Below wr.heap.size wr out
instance (wr : World) : Nonempty (BW wr) := ⟨⟨wr, Below.refl _ _⟩⟩
theorem wp_region_quiet_below {P : Program} {id : Nat} {Q : Exit → Act → World → Prop} {a : Act} {wr : World} {l : List Oper} (hm : P.follows .mixedOrders = true) (hB : Region.lexB .any l.toArray = true)
    (h : wpQuiet P l.toArray (fun w' => ∃ x : BW wr, w' = x.out) (fun a' => ∀ w', (∃ x : BW wr, w' = x.out) → Q .normal a' w') l a) : (Code.region id l.toArray true).wp P Q a wr :=
  wp_region_quiet (C := fun w' => ∃ x : BW wr, w' = x.out) hm hB ⟨⟨_, (Below.refl _ _).drew⟩, rfl⟩ (by simpa using h)

theorem defined_at (m : Ma) (i o : Int) (A : Option Addr) (n c : Nat) (w : World) (v : Mc.Val m) (hi : m.i = i) (ho : m.o = o) (hn : m.r.length = n) (hr : RdR w A m.r) :
    Calls Try.prog 31 #[.agg #[.int .i64 i, .int .i64 o, .slice A n c]] w fun e w' => e = .returned (.int .i64 (Mc.dfd m.r)) ∧ Below w.heap.size w w' := by
  obtain ⟨mi, mo, mr⟩ := m
  subst hi ho hn
  exact defined_in mi mo mr A c w hr v.len (by have := v.i1; simp only at this; omega) (by have := v.r1; simp only at this; omega)
theorem connected_at (m : Ma) (i o : Int) (A : Option Addr) (n c : Nat) (w : World) (v : Mc.Val m) (hi : m.i = i) (ho : m.o = o) (hn : m.r.length = n) (hr : RdR w A m.r) :
    Calls Try.prog 30 #[.agg #[.int .i64 i, .int .i64 o, .slice A n c]] w fun e w' => e = .returned (.bool (Mc.conn m)) ∧ Below w.heap.size w w' := by
  subst hi ho hn
  exact connected_any m A c w v hr

set_option maxRecDepth 100000 in
set_option maxHeartbeats 8000000 in
theorem lawShape_walk {E : World → Prop} (P : Pm E) (a b d : Int) (p : Bool) (A : Option Addr) (c : Nat) (es : List Int) (w : World) (he : E w) (hr : Rd16 w A es) (hl : es.length ≤ 9223372036854775807)
    (ha : 0 ≤ a ∧ a ≤ 255) (hb : 0 ≤ b ∧ b ≤ 255) (hd : 0 ≤ d ∧ d ≤ 255) :
    Calls Try.prog 4 #[.agg #[.int .u8 a, .int .u8 b, .int .u8 d, .bool p, .slice A es.length c]] w fun e w' => e = .returned (.bool true) ∧ Below w.heap.size w w' := by
  obtain ⟨n, hn⟩ : ∃ n : Nat, 1 + a % 6 = n := ⟨(1 + a % 6).toNat, by omega⟩
  obtain ⟨i, hi⟩ : ∃ i : Nat, 1 + b % 3 = i := ⟨(1 + b % 3).toNat, by omega⟩
  obtain ⟨o, ho⟩ : ∃ o : Nat, 1 + d % 3 = o := ⟨(1 + d % 3).toNat, by omega⟩
  have CM := fun w hr => mof_at a b d p A c es n i o w hr hl ha hb hd hn hi ho
  have hn6 : n ≤ 6 := by omega
  have hi3 : i ≤ 3 := by omega
  have V := Lib.hid (Mc.mkN_val (p := p) (n := n) (i := i) (o := o) (es := es) (by omega) (by omega) (by omega) (by omega) (by omega) (by omega))
  have hlen : Hid ((Mc.mkN p n i o es).r.length = n) := Mc.mkN_len _ _ _ _ _
  have hmi : Hid ((Mc.mkN p n i o es).i = i) := rfl
  have hrow := Lib.hid (fun row (hrow : row ∈ (Mc.mkN p n i o es).r) => (show row.length ≤ 1000000 by have := V.out.len row hrow; have h2 := V.out.i1; omega))
  have hchk := Lib.hid (Mc.chk_of V.out)
  obtain ⟨bq, hbq⟩ : ∃ bq, ((Mc.dfd (Mc.mkN p n i o es).r : Int) == (Mc.mkN p n i o es).r.length * (Mc.mkN p n i o es).i) = bq := ⟨_, rfl⟩
  obtain ⟨bc, hbc⟩ : ∃ bc, Mc.conn (Mc.mkN p n i o es) = bc := ⟨_, rfl⟩
  obtain ⟨D, hD⟩ : ∃ D, Mc.dfd (Mc.mkN p n i o es).r = D := ⟨_, rfl⟩
  obtain ⟨U, hU⟩ : ∃ U, Mc.und (Mc.mkN p n i o es).r 0 = U := ⟨_, rfl⟩
  obtain ⟨T, hT⟩ : ∃ T : Nat, n * i = T := ⟨_, rfl⟩
  have hT1 : (n : Int) * (i : Int) = T := by rw [← hT]; simp
  have hT9 : T ≤ 18 := by rw [← hT]; exact Nat.mul_le_mul hn6 hi3
  have hUD : Hid (U.length + D = T) := by
    have h := Mc.und_len (Mc.mkN p n i o es).r 0 V.out.len
    rw [hU, hD, hlen.out, hmi.out, hT1] at h
    show _ = _
    omega
  have e1 : Hid (Mc.cmpV (Mc.mkN p n i o es) = bq) := by show _ = _; unfold Mc.cmpV; rw [if_pos hchk.out]; exact hbq
  have e2 : Hid (Mc.conV (Mc.mkN p n i o es) = bc) := by show _ = _; unfold Mc.conV; rw [if_pos hchk.out]; exact hbc
  have e3 : Hid (Mc.trV (Mc.mkN p n i o es) = D) := by show _ = _; unfold Mc.trV; rw [if_pos hchk.out, hD]
  have e4 : Hid (Mc.unV (Mc.mkN p n i o es) = U) := by show _ = _; unfold Mc.unV; rw [if_pos hchk.out, hU]
  have HBQ := Lib.hid hbq
  have HBC := Lib.hid hbc
  have HD := Lib.hid hD
  have HU := Lib.hid hU
  clear hbq hbc hD hU hT
  have s0 := MK.start he
  have HR := Lib.hid hr
  clear he hr
  go_enter Try.func4, Try.ntmps4
  have s1 := s0.alloc P (.cells #[.int .u8 a, .int .u8 b, .int .u8 d, .bool p, .slice A es.length c] 57)
  clear s0
  go_wp2_with fail
  refine (CM _ (HR.out.below s1.2.1)).mono ?_
  rintro e w1 ⟨R, c1, rfl, hrd, hbl⟩
  have s2 := (((s1.next P hbl).putR hrd).alloc P (.cells #[.int .i64 i, .int .i64 o, .slice R n c1] 24)).putB (g := w1.heap.size) (heap_alloc_new w1 _)
  clear s1 hrd hbl
  have mm : (⟨i, o, (Mc.mkN p n i o es).r⟩ : Ma) = Mc.mkN p n i o es := rfl
  have C1 := fun w he hr => P.complete i o (Mc.mkN p n i o es).r R n c1 w he hr hlen.out (by omega) hrow.out
  have C2 := fun w he hr => P.connected i o (Mc.mkN p n i o es).r R n c1 w he hr hlen.out (by omega) hrow.out
  have C3 := fun w he hr => P.transitions i o (Mc.mkN p n i o es).r R n c1 w he hr hlen.out (by omega) hrow.out
  have C4 := fun w he hr => P.undefined i o (Mc.mkN p n i o es).r R n c1 w he hr hlen.out (by omega) hrow.out
  simp only [mm, hchk.out, e1.out] at C1
  simp only [mm, hchk.out, e2.out] at C2
  simp only [mm, hchk.out, e3.out] at C3
  simp only [mm, hchk.out, e4.out] at C4
  have D1 := fun w hr => complete_at (Mc.mkN p n i o es) i o R n c1 w V.out rfl rfl hlen.out hr
  have D2 := fun w hr => connected_at (Mc.mkN p n i o es) i o R n c1 w V.out rfl rfl hlen.out hr
  have D3 := fun w hr => defined_at (Mc.mkN p n i o es) i o R n c1 w V.out rfl rfl hlen.out hr
  simp only [HBQ.out] at D1
  simp only [HBC.out] at D2
  simp only [HD.out] at D3
  clear mm
  go_wp2_with fail
  refine (C1 _ s2.1 (s2.get 1 rfl)).mono ?_
  rintro e w3 ⟨rfl, hbl⟩
  have s3 := s2.next P hbl
  clear s2 hbl
  obtain ⟨b0, b1, b2⟩ := BxM.cells (s3.get 0 rfl)
  go_wp2_with fail
  clear b0 b1 b2
  refine (C2 _ s3.1 (s3.get 1 rfl)).mono ?_
  rintro e w4 ⟨rfl, hbl⟩
  have s4 := s3.next P hbl
  clear s3 hbl
  obtain ⟨b0, b1, b2⟩ := BxM.cells (s4.get 0 rfl)
  go_wp2_with fail
  clear b0 b1 b2
  refine (C3 _ s4.1 (s4.get 1 rfl)).mono ?_
  rintro e w5 ⟨rfl, hbl⟩
  have s5 := s4.next P hbl
  clear s4 hbl
  obtain ⟨b0, b1, b2⟩ := BxM.cells (s5.get 0 rfl)
  go_wp2_with fail
  clear b0 b1 b2
  refine (C4 _ s5.1 (s5.get 1 rfl)).mono ?_
  rintro e w6 ⟨B, k, rfl, hk, hrp, hbl⟩
  have s6 := (s5.next P hbl).putP hrp
  clear s5 hbl hrp
  have hT2 : (D : Int) + (k : Int) = T := by have := hUD.out; have := hk.out; omega
  have hk18 : k ≤ 18 := by omega
  have hD18 : D ≤ 18 := by omega
  have hTT : ((T : Int) == T) = true := beq_self_eq_true _
  obtain ⟨b0, b1, b2⟩ := BxM.cells (s6.get 1 rfl)
  go_wp2_with fail
  clear b0 b1 b2
  refine (D1 _ (s6.get 2 rfl)).mono ?_
  rintro e w7 ⟨rfl, hbl⟩
  have s7 := s6.next P hbl
  clear s6 hbl
  obtain ⟨b0, b1, b2⟩ := BxM.cells (s7.get 1 rfl)
  have hbqq : (bq == bq) = true := beq_self_eq_true _
  have hbcc : (bc == bc) = true := beq_self_eq_true _
  go_wp2_with fail
  clear b0 b1 b2
  refine (D2 _ (s7.get 2 rfl)).mono ?_
  rintro e w8 ⟨rfl, hbl⟩
  have s8 := s7.next P hbl
  clear s7 hbl
  obtain ⟨b0, b1, b2⟩ := BxM.cells (s8.get 1 rfl)
  go_wp2_with fail
  clear b0 b1 b2
  refine (D3 _ (s8.get 2 rfl)).mono ?_
  rintro e w9 ⟨rfl, hbl⟩
  have s9 := s8.next P hbl
  clear s8 hbl
  obtain ⟨b0, b1, b2⟩ := BxM.cells (s9.get 1 rfl)
  go_wp2_with fail
  clear b0 b1 b2 C1 C2 C3 C4 D1 D2 D3 hT1 hT2 hTT hbqq hbcc
  go_loopw [12] (fun v wr => ∃ q : Nat, q ≤ k ∧ v = .int .i64 q ∧ Below w9.heap.size w9 wr) (fun v _ => k - (intOf v).toNat)
  case atStart => exact ⟨0, Nat.zero_le _, rfl, Below.refl _ _⟩
  case round =>
    obtain ⟨q, hq, rfl, hbq⟩ := hrel
    have s10 := s9.next P hbq
    have HB := Lib.hid hbq
    clear s9 hbq
    by_cases hql : q < k
    · have hRU : RdP wr B U := s10.get 0 rfl
      have hqU : q < U.length := by rw [hk.out]; exact hql
      obtain ⟨bu, offu, xs, xj, rfl, hbu, hcu0, hcu1, hqu⟩ := hRU.at_ (k := q) hqU
      have hmem := Mc.und_mem (Mc.mkN p n i o es).r 0 (xs, xj) (by rw [HU.out]; exact List.mem_of_getElem? hqu.out)
      obtain ⟨s', j', hsj, row, x, hrs, hrx, hx0⟩ := hmem
      rw [Nat.zero_add] at hsj
      injection hsj with hs1 hj1
      subst hs1 hj1
      have hsl : s' < (Mc.mkN p n i o es).r.length := (List.getElem?_eq_some_iff.1 hrs).1
      have hrlen := V.out.len row (List.mem_of_getElem? hrs)
      have hx1 : x = (-1, -1) := by
        rcases V.out.ok row (List.mem_of_getElem? hrs) x (List.mem_of_getElem? hrx) with ⟨e1, e2⟩ | ⟨e1, _⟩
        · exact Prod.ext e1 e2
        · omega
      subst hx1
      have hjl : j' < row.length := (List.getElem?_eq_some_iff.1 hrx).1
      have hrR : RdR wr R (Mc.mkN p n i o es).r := s10.get 2 rfl
      obtain ⟨br, offr, Be, de, qe, row', rfl, hbr, hcr, _, _, _, hpe, hqe, hrw⟩ := hrR.at_ hsl
      have hrr : row' = row := by have := hrw.out; rw [hrs] at this; injection this with this; exact this.symm
      subst hrr
      obtain ⟨be, offe, ex, ey, rfl, hbe, hce0, hce1, hex⟩ := hpe.at_ hjl
      have hee : ((ex, ey) : Ed) = (-1, -1) := by have := hex.out; rw [hrx] at this; injection this with this; exact this.symm
      injection hee with he1 he2
      subst he1 he2
      have hjq : j' < qe := by rw [← hqe.out]; exact hjl
      have hs6 : s' < n := by rw [← hlen.out]; exact hsl
      have hj3 : j' < 3 := by rw [hmi.out] at hrlen; omega
      obtain ⟨m0, m1, m2⟩ := BxM.cells (s10.get 1 rfl)
      have hM1 : w1.heap.size < wr.heap.size := heap_lt (s10.get 1 rfl)
      have hrun : ∀ w, (binOp .neq 39 (.agg #[.int .i64 (-1), .int .i64 (-1)]) (.agg #[.int .i64 (-1), .int .i64 (-1)])).run Try.prog w = .ok (.bool false) w := fun w => by rw [run_neq_edge]; simp
      clear hrs hrx hrlen hsl hjl hrR hpe hqe hrw hex hx0 m0 m1
      rcases Nat.eq_zero_or_pos q with hq0 | hq0
      · subst hq0
        clear hRU hqu hqU
        have hk0 : (0 : Int) < k := by omega
        have hk1 : 0 < k := by omega
        have hsn : (s' : Int) < n := by omega
        have hjn : (j' : Int) < qe := by omega
        have f0 : ∀ x : BW wr, x.out.cell? ⟨w1.heap.size, 2, none⟩ = some (.slice (some ⟨br, offr, none⟩) n c1) := fun x => (x.ok.cell (p := ⟨_, _, none⟩) hM1).trans m2
        have f1 : ∀ x : BW wr, x.out.cell? ⟨bu, offu, none⟩ = some (.int .i64 s') := fun x => (x.ok.cell (p := ⟨_, _, none⟩) hbu).trans (by simpa using hcu0)
        have f2 : ∀ x : BW wr, x.out.cell? ⟨bu, offu + 1, none⟩ = some (.int .i64 j') := fun x => (x.ok.cell (p := ⟨_, _, none⟩) hbu).trans (by simpa using hcu1)
        have f3 : ∀ x : BW wr, x.out.cell? ⟨br, offr + s', none⟩ = some (.slice (some ⟨be, offe, none⟩) qe de) := fun x => (x.ok.cell (p := ⟨_, _, none⟩) hbr).trans hcr
        have f4 : ∀ x : BW wr, x.out.cell? ⟨be, offe + j' * 2, none⟩ = some (.int .i64 (-1)) := fun x => (x.ok.cell (p := ⟨_, _, none⟩) hbe).trans hce0
        have f5 : ∀ x : BW wr, x.out.cell? ⟨be, offe + j' * 2 + 1, none⟩ = some (.int .i64 (-1)) := fun x => (x.ok.cell (p := ⟨_, _, none⟩) hbe).trans hce1
        go_wp2_with fail
        refine wp_region_quiet_below (by kernel_rfl) (by kernel_rfl) ?_
        repeat (go_big_quiet_step ((rename_i x; refine (edge_any (-1) (-1) _).mono ?_; rintro e w2 ⟨rfl, hb2⟩; exact ⟨rfl, ⟨w2, below_next x.ok hb2⟩, rfl⟩)))
        refine wpQuiet_nil ?_
        intro w2 hw2
        obtain ⟨⟨wx, hbW⟩, hw3⟩ := hw2
        dsimp only at hw3
        subst hw3
        clear f0 f1 f2 f3 f4 f5
        go_wp2_with fail
        go_roundw
        case rel => exact ⟨1, by omega, by go_num, below_next HB.out hbW⟩
        case measure => first | (simp [intOf]; omega) | (simp [intOf])
      · obtain ⟨q, rfl⟩ : ∃ q', q = q' + 1 := ⟨q - 1, by omega⟩
        obtain ⟨⟨xp, yp⟩, hqp⟩ : ∃ x, U[q]? = some x := ⟨_, List.getElem?_eq_getElem (by omega)⟩
        obtain ⟨bu', offu', e', _, hall⟩ := hRU (by omega)
        injection e' with e'
        injection e' with e1' e2'
        subst e1' e2'
        obtain ⟨hcp0, hcp1⟩ := hall q _ hqp
        have hlt2 : Mc.Lt2 (xp, yp) ((s' : Int), (j' : Int)) := by
          have hpw := Mc.und_sorted (Mc.mkN p n i o es).r 0
          rw [HU.out] at hpw
          have hq1 : q < U.length := by omega
          have := List.pairwise_iff_getElem.1 hpw q (q + 1) hq1 hqU (by omega)
          have h1 : U[q] = (xp, yp) := by rw [List.getElem?_eq_getElem hq1] at hqp; injection hqp
          have h2 : U[q + 1] = ((s' : Int), (j' : Int)) := by have := hqu.out; rw [List.getElem?_eq_getElem hqU] at this; injection this
          rw [h1, h2] at this
          exact this
        obtain ⟨sp, jp, hsp, rowp, xxp, hrsp, hrxp, _⟩ := Mc.und_mem (Mc.mkN p n i o es).r 0 (xp, yp) (by rw [HU.out]; exact List.mem_of_getElem? hqp)
        rw [Nat.zero_add] at hsp
        injection hsp with hs1 hj1
        subst hs1 hj1
        have hsp6 : sp < n := by rw [← hlen.out]; exact (List.getElem?_eq_some_iff.1 hrsp).1
        have hjp3 : jp < 3 := by
          have h1 := V.out.len rowp (List.mem_of_getElem? hrsp)
          have h2 : jp < rowp.length := (List.getElem?_eq_some_iff.1 hrxp).1
          rw [hmi.out] at h1
          omega
        have hcmp : ¬ ((s' : Int) * 100 + j' ≤ (sp : Int) * 100 + jp) := by
          rcases hlt2 with h | ⟨h, h'⟩
          · simp only at h; omega
          · simp only at h h'; omega
        have hA1 : (0 : Int) ≤ (q : Int) + 1 := by omega
        have hA5 : (0 : Int) < (q : Int) + 1 := by omega
        have hA6 : IntKind.i64.wrap ((q : Int) + 1 - 1) = q := by rw [show (q : Int) + 1 - 1 = q by omega]; exact IntWalk.i64_in _ (by omega)
        have hA7 : (0 : Int) ≤ (q : Int) := by omega
        have hn6 : (n : Int) ≤ 6 := by omega
        have hs66 : (s' : Int) < n := by omega
        have hp66 : (sp : Int) < n := by omega
        have hW1 : IntKind.i64.wrap ((s' : Int) * 100) = s' * 100 := IntWalk.i64_in _ (by omega)
        have hW2 : IntKind.i64.wrap ((s' : Int) * 100 + j') = s' * 100 + j' := IntWalk.i64_in _ (by omega)
        have hW3 : IntKind.i64.wrap ((sp : Int) * 100) = sp * 100 := IntWalk.i64_in _ (by omega)
        have hW4 : IntKind.i64.wrap ((sp : Int) * 100 + jp) = sp * 100 + jp := IntWalk.i64_in _ (by omega)
        have hA12 : IntKind.i64.wrap (q : Int) = q := IntWalk.i64_in _ (by omega)
        have hA8 : (q : Int) + 1 - 1 = q := by omega
        have hA9 : ((q : Int)).toNat = q := by omega
        have hA10 : ¬ (q : Int) < 0 := by omega
        have hA11 : ¬ (k : Int) ≤ q := by omega
        have hA2 : (q : Int) + 1 < k := by omega
        have hA3 : (q : Int) < k := by omega
        have hA4 : ((q : Int) + 1).toNat = q + 1 := by omega
        have hsn : (s' : Int) < n := by omega
        have hjn : (j' : Int) < qe := by omega
        clear hRU hqu hqU hqp hall hlt2 hrsp hrxp
        have f0 : ∀ x : BW wr, x.out.cell? ⟨w1.heap.size, 2, none⟩ = some (.slice (some ⟨br, offr, none⟩) n c1) := fun x => (x.ok.cell (p := ⟨_, _, none⟩) hM1).trans m2
        have f1 : ∀ x : BW wr, x.out.cell? ⟨bu, offu + (q + 1) * 2, none⟩ = some (.int .i64 s') := fun x => (x.ok.cell (p := ⟨_, _, none⟩) hbu).trans hcu0
        have f2 : ∀ x : BW wr, x.out.cell? ⟨bu, offu + (q + 1) * 2 + 1, none⟩ = some (.int .i64 j') := fun x => (x.ok.cell (p := ⟨_, _, none⟩) hbu).trans hcu1
        have f3 : ∀ x : BW wr, x.out.cell? ⟨br, offr + s', none⟩ = some (.slice (some ⟨be, offe, none⟩) qe de) := fun x => (x.ok.cell (p := ⟨_, _, none⟩) hbr).trans hcr
        have f4 : ∀ x : BW wr, x.out.cell? ⟨be, offe + j' * 2, none⟩ = some (.int .i64 (-1)) := fun x => (x.ok.cell (p := ⟨_, _, none⟩) hbe).trans hce0
        have f5 : ∀ x : BW wr, x.out.cell? ⟨be, offe + j' * 2 + 1, none⟩ = some (.int .i64 (-1)) := fun x => (x.ok.cell (p := ⟨_, _, none⟩) hbe).trans hce1
        have f6 : ∀ x : BW wr, x.out.cell? ⟨bu, offu + q * 2, none⟩ = some (.int .i64 sp) := fun x => (x.ok.cell (p := ⟨_, _, none⟩) hbu).trans hcp0
        have f7 : ∀ x : BW wr, x.out.cell? ⟨bu, offu + q * 2 + 1, none⟩ = some (.int .i64 jp) := fun x => (x.ok.cell (p := ⟨_, _, none⟩) hbu).trans hcp1
        go_wp2_with fail
        refine wp_region_quiet_below (by kernel_rfl) (by kernel_rfl) ?_
        repeat (quiet_step ((rename_i x; refine (edge_any (-1) (-1) _).mono ?_; rintro e w2 ⟨rfl, hb2⟩; exact ⟨rfl, ⟨w2, below_next x.ok hb2⟩, rfl⟩)))
        refine wpQuiet_nil ?_
        intro w2 hw2
        obtain ⟨⟨wx, hbW⟩, hw3⟩ := hw2
        dsimp only at hw3
        subst hw3
        clear f0 f1 f2 f3 f4 f5 f6 f7
        go_wp2_with fail
        go_roundw
        case rel => exact ⟨q + 1 + 1, by omega, by go_num, below_next HB.out hbW⟩
        case measure => simp [intOf]; omega
    · go_wp2_with fail
      refine (lives_walk P _ s10.1).mono ?_
      rintro e wl ⟨rfl, hbl⟩
      have s11 := s10.next P hbl
      go_wp2
      go_ret
      exact ⟨rfl, s11.2.1⟩
end Go.Proofs.Ytiohfflkolopeaa
