/-
  The walk of the law JoinsRestrict. No statement is proved here.
-/
import Derived.Test.YtcbmohcjmofomaaJb2
import Derived.Test.YtcbmohcjmofomaaJrM
import Derived.Deep.RegionHeld3
import Derived.Deep.CutRange
import Derived.Deep.QuietTactic
namespace Go.Proofs.Ytcbmohcjmofomaa
open Go.RowKit
open Mc (Ed Ma)

set_option maxRecDepth 100000 in
set_option maxHeartbeats 4000000 in
theorem jres_walk (a b d : Int) (p : Bool) (A : Option Addr) (c : Nat) (es : List Int) (I : Option Addr) (cI : Nat) (ins : List Int) (B1 : Option Addr) (e1 : Nat) (ws : List Int) (w : World)
    (hr : Rd16 w A es) (hl : es.length ≤ 9223372036854775807) (ha : 0 ≤ a ∧ a ≤ 255) (hb : 0 ≤ b ∧ b ≤ 255) (hd : 0 ≤ d ∧ d ≤ 255) (hI : Rd w I ins) (hr8 : Rd8 w B1 ws) (hlw : ws.length ≤ 9223372036854775807) :
    Calls Try.prog 8 #[.agg #[.int .u8 a, .int .u8 b, .int .u8 d, .bool p, .slice A es.length c], .slice I ins.length cI, .agg #[.slice B1 ws.length e1]] w fun e w' => e = .returned (.bool true) ∧ Below w.heap.size w w' := by
  obtain ⟨E1, hE1⟩ : ∃ E, es.length = E := ⟨_, rfl⟩
  obtain ⟨n, hn⟩ : ∃ n : Nat, 1 + a % 6 = n := ⟨(1 + a % 6).toNat, by omega⟩
  obtain ⟨i, hi⟩ : ∃ i : Nat, 1 + b % 3 = i := ⟨(1 + b % 3).toNat, by omega⟩
  obtain ⟨o, ho⟩ : ∃ o : Nat, 1 + d % 3 = o := ⟨(1 + d % 3).toNat, by omega⟩
  have CM := fun w hr => mofB_at a b d p A c es n i o w hr hl ha hb hd hn hi ho
  have hn6 : n ≤ 6 := by omega
  have hn1 : 1 ≤ n := by omega
  have hi1 : 1 ≤ i := by omega
  have hi3 : i ≤ 3 := by omega
  have ho1 : 1 ≤ o := by omega
  have ho3 : o ≤ 3 := by omega
  have V := Lib.hid (Mc.mkN_val (p := p) (n := n) (i := i) (o := o) (es := es) (by omega) (by omega) (by omega) (by omega) (by omega) (by omega))
  have hlen : Hid ((Mc.mkN p n i o es).r.length = n) := Mc.mkN_len _ _ _ _ _
  have hmi : Hid ((Mc.mkN p n i o es).i = i) := rfl
  have hmo : Hid ((Mc.mkN p n i o es).o = o) := rfl
  obtain ⟨M, hM⟩ : ∃ M, Mc.mkN p n i o es = M := ⟨_, rfl⟩
  rw [hM] at V hlen hmi hmo
  simp only [hM, hE1] at CM
  have HR := Lib.hid hr
  rw [hE1]
  obtain ⟨F1, hF1⟩ : ∃ E, ws.length = E := ⟨_, rfl⟩
  have HF1 := Lib.hid hF1
  have HLW := Lib.hid hlw
  have HR8 := Lib.hid hr8
  rw [hF1]
  clear hF1 hlw hr8
  obtain ⟨L, hL⟩ : ∃ L, ins.length = L := ⟨_, rfl⟩
  have HI := Lib.hid hI
  have HL := Lib.hid hL
  rw [hL]
  clear hI hL
  clear hM ha hb hd hn hi ho hl hr hE1
  obtain ⟨K0, hK0⟩ : ∃ K0, w.heap.size = K0 := ⟨_, rfl⟩
  have hB0 : Below w.heap.size w ((w.alloc (.cells #[.int .u8 a, .int .u8 b, .int .u8 d, .bool p, .slice A E1 c] 40)).alloc (.cells #[.slice B1 F1 e1] 48)) := ((Below.refl _ _).alloc (Nat.le_refl _) _).alloc (by simp) _
  have hX0 : BxX ((w.alloc (.cells #[.int .u8 a, .int .u8 b, .int .u8 d, .bool p, .slice A E1 c] 40)).alloc (.cells #[.slice B1 F1 e1] 48)) K0 a b d p A E1 c := by
    have h : BxX (w.alloc (.cells #[.int .u8 a, .int .u8 b, .int .u8 d, .bool p, .slice A E1 c] 40)) K0 a b d p A E1 c := by rw [← hK0]; exact heap_alloc_new w _
    exact h.below ((Below.refl _ _).alloc (Nat.le_refl _) _)
  have hZ0 : ((w.alloc (.cells #[.int .u8 a, .int .u8 b, .int .u8 d, .bool p, .slice A E1 c] 40)).alloc (.cells #[.slice B1 F1 e1] 48)).heap[K0 + 1]? = some (.cells #[.slice B1 F1 e1] 48) := by
    have h := heap_alloc_new (w.alloc (.cells #[.int .u8 a, .int .u8 b, .int .u8 d, .bool p, .slice A E1 c] 40)) (.cells #[.slice B1 F1 e1] 48)
    rw [World.size_alloc, hK0] at h
    exact h
  go_enter Try.func8, Try.ntmps8
  go_upto_region 1 with fail
  obtain ⟨W0, hW0⟩ : ∃ W0, ((w.alloc (.cells #[.int .u8 a, .int .u8 b, .int .u8 d, .bool p, .slice A E1 c] 40)).alloc (.cells #[.slice B1 F1 e1] 48)) = W0 := ⟨_, rfl⟩
  rw [hW0] at hB0 hX0 hZ0
  try rw [hW0]
  try rw [hK0]
  have HX := Lib.hid hX0
  have HB0 := Lib.hid hB0
  have HZ := Lib.hid hZ0
  clear hW0 hK0 hB0 hX0 hZ0

  by_cases h40 : 40 < L
  · have h40d : decide ((40 : Int) < L) = true := decide_eq_true (by omega)
    have h40i : (40 : Int) < L := by omega
    have hfin := HB0
    clear HX HZ CM HR
    go_wp2_with fail
    go_ret
    exact ⟨rfl, hfin.out⟩
  have h40d : decide ((40 : Int) < L) = false := decide_eq_false (by omega)
  have h40i : ¬ (40 : Int) < L := by omega
  obtain ⟨a0, a1, a2, a3, a4⟩ := HX.out.cells
  go_wp2_with fail
  clear a0 a1 a2 a3 a4
  refine (CM _ (HR.out.below HB0.out)).mono ?_
  rintro e w1 ⟨R, c1, vsR, rfl, hBR, hb1⟩
  have s1 : MT w w1 [] := MT.next (MT.next MT.start HB0.out) hb1
  have s2 := MK.putR s1 hBR.out.two
  have s2 := MT.putK (P := fun w => w.heap[K0 + 1]? = some (.cells #[.slice B1 F1 e1] 48)) s2 ((hb1.block _ (heap_lt HZ.out)).trans HZ.out) (fun _ _ h hb => (hb.block _ (heap_lt h)).trans h)
  have s3 := MK.putB (g := w1.heap.size) (MT.alloc s2 (.cells #[.int .i64 i, .int .i64 o, .slice R n c1] 24)) (heap_alloc_new w1 _)
  clear s1 s2 hBR hb1 CM HR HX HB0 HZ
  go_upto_region 4 with fail
  obtain ⟨w2, hw⟩ : ∃ q, w1.alloc (.cells #[.int .i64 i, .int .i64 o, .slice R n c1] 24) = q := ⟨_, rfl⟩
  obtain ⟨G, hG⟩ : ∃ G, w1.heap.size = G := ⟨_, rfl⟩
  rw [hw, hG] at s3
  try rw [hw]
  try rw [hG]
  clear hw hG

  -- 0: G, 1: the word's box, 2: M.r
  obtain ⟨x, hx⟩ : ∃ x, rech M ins = x := ⟨_, rfl⟩
  have HXX := Lib.hid hx
  have CRs : Hid (∀ wr, RdR wr R M.r → Rd wr I ins → Calls Try.prog 38 #[.agg #[.int .i64 i, .int .i64 o, .slice R n c1], .slice I L cI] wr fun e w' => ∃ (ri ro : Int) (RP : Option Addr) (rk rk' : Nat), e = .returned (.tuple #[.agg #[.int .i64 ri, .int .i64 ro, .slice RP rk rk'], .int .i64 x]) ∧ Hid ((x ≠ 0 ∧ ri = 0 ∧ ro = 0 ∧ RP = none ∧ rk = 0 ∧ rk' = 0) ∨ (x = 0 ∧ ri = L ∧ ro = o ∧ ∃ P, RP = some ⟨P, 0, none⟩ ∧ rk = n ∧ rk' = n ∧ Ex w' P n (resT M ins))) ∧ Below wr.heap.size wr w') := fun wr hR hI => by
    have h := restrict_any M R n c1 ins I L cI wr hR hlen.out (by omega) (fun row hr => by have := V.out.len row hr; have := V.out.i1; omega) hI HL.out (by omega)
    rw [hmi.out, hmo.out, HXX.out] at h
    refine h.mono fun e w' h => ?_
    rcases h with ⟨h1, rfl, h2⟩ | ⟨h1, h2⟩
    · exact ⟨0, 0, none, 0, 0, rfl, Or.inl ⟨h1, rfl, rfl, rfl, rfl, rfl⟩, h2⟩
    · have hL16 : L ≤ 16 := by
        have h3 := HXX.out
        rw [rech_val V.out, h1] at h3
        by_cases h4 : 16 < ins.length
        · rw [if_pos h4] at h3; cases h3
        · rw [← HL.out]; omega
      have hlr : (resT M ins).length = n := by simp [resT, hlen.out]
      obtain ⟨P, rfl, hX, hb⟩ := JeP.ok (Or.inr ⟨h1, h2⟩) h1 hlr (by omega) (fun row hr => by
        obtain ⟨r0, _, rfl⟩ := List.mem_map.1 hr
        rw [List.length_map, HL.out]
        omega)
      exact ⟨_, _, _, _, _, by rw [h1], Or.inr ⟨h1, rfl, rfl, P, rfl, rfl, rfl, hX⟩, hb⟩
  clear hx
  obtain ⟨m0, m1, m2⟩ := BxM.cells (MK.get s3 0 rfl)
  go_wp2_with fail
  clear m0 m1 m2
  refine (CRs.out _ (MK.get s3 2 rfl) (HI.out.below s3.2.1)).mono ?_
  rintro e w3 ⟨ri, ro, RP, rk, rk', rfl, hRE, hb3⟩
  have s4 := MK.putB (g := w3.heap.size) (MT.alloc (MT.next s3 hb3) (.cells #[.int .i64 ri, .int .i64 ro, .slice RP rk rk'] 24)) (heap_alloc_new w3 _)
  have hRE2 : Hid ((x ≠ 0 ∧ ri = 0 ∧ ro = 0 ∧ RP = none ∧ rk = 0 ∧ rk' = 0) ∨ (x = 0 ∧ ri = L ∧ ro = o ∧ ∃ P, RP = some ⟨P, 0, none⟩ ∧ rk = n ∧ rk' = n ∧ Ex (w3.alloc (.cells #[.int .i64 ri, .int .i64 ro, .slice RP rk rk'] 24)) P n (resT M ins))) := by
    rcases hRE.out with h | ⟨h1, h2, h3, P, h4, h5, h6, h7⟩
    · exact Or.inl h
    · exact Or.inr ⟨h1, h2, h3, P, h4, h5, h6, h7.below ((Below.refl _ _).alloc (Nat.le_refl _) _)⟩
  clear s3 hb3 hRE CRs
  go_upto_region 5 with fail
  obtain ⟨w4, hw⟩ : ∃ q, w3.alloc (.cells #[.int .i64 ri, .int .i64 ro, .slice RP rk rk'] 24) = q := ⟨_, rfl⟩
  obtain ⟨T, hT⟩ : ∃ T, w3.heap.size = T := ⟨_, rfl⟩
  rw [hT, hw] at s4
  rw [hw] at hRE2
  try rw [hw]
  try rw [hT]
  have HRE := hRE2
  clear hw hT hRE2
  have S4 := Lib.hid s4
  clear s4
  -- 0: T, 1: G, 2: the word's box, 3: M.r
  have HI4 := Lib.hid (HI.out.below S4.out.2.1)
  clear HI
  go_wp2_with fail
  go_loopw [10, 11] (fun u v wr => ∃ (k : Nat) (z : Int), k ≤ L ∧ u = .int .i64 z ∧ v = .int .i64 k ∧ Hid (WzJ z (Dst (ins.take k) i)) ∧ Hid (Below w4.heap.size w4 wr)) (fun _ v _ => L - (intOf v).toNat)
  case atStart => exact ⟨0, 0, Nat.zero_le _, rfl, rfl, Or.inl ⟨rfl, dst_nil _ _⟩, Below.refl _ _⟩
  case round =>
    obtain ⟨k, z, hk, rfl, rfl, hz, hbr⟩ := hrel
    by_cases hlt : k < L
    · have hlti : (k : Int) < L := by omega
      obtain ⟨bI, oI, y, hIe, _, _, hy⟩ := rd_nth (HI4.out.below hbr.out) (k := k) (by rw [HL.out]; exact hlt)
      have HY := Lib.hid hy
      subst hIe
      clear hy
      go_wp2_with fail
      go_loopw [10, 12] (fun u v wx => ∃ (j : Nat) (z : Int), j ≤ k ∧ u = .int .i64 z ∧ v = .int .i64 j ∧ Hid (WzJ z (Dst (ins.take k) i ∧ ∀ m : Nat, m < j → ins[m]? ≠ some y)) ∧ Hid (Below w4.heap.size w4 wx)) (fun _ v _ => k - (intOf v).toNat)
      case atStart => exact ⟨0, z, Nat.zero_le _, rfl, rfl, hz.out.to ⟨fun h => h.1, fun h => ⟨h, fun m hm => absurd hm (by omega)⟩⟩, hbr⟩
      case round =>
        obtain ⟨j, z2, hj, rfl, rfl, hz2, hbx⟩ := hrel
        clear hz hbr
        obtain ⟨_, _, y2, hIe, _, e1c, hy2⟩ := rd_nth (HI4.out.below hbx.out) (k := k) (by rw [HL.out]; exact hlt)
        injection hIe with hIe
        injection hIe with hIe1 hIe2 _
        subst hIe1 hIe2
        obtain rfl : y2 = y := by rw [HY.out] at hy2; injection hy2 with hy2; exact hy2.symm
        clear hy2
        by_cases hlj : j < k
        · have hlji : (j : Int) < k := by omega
          obtain ⟨_, _, q, hIe, _, e2c, hq⟩ := rd_nth (HI4.out.below hbx.out) (k := j) (by rw [HL.out]; omega)
          injection hIe with hIe
          injection hIe with hIe1 hIe2 _
          subst hIe1 hIe2
          have HQ := Lib.hid hq
          clear hq
          have hjL : (j : Int) < L := by omega
          by_cases hqy : q = y2
          · have hqb : (q == y2) = true := by rw [beq_iff_eq]; exact hqy
            have hN : Hid (WzJ 1 (Dst (ins.take k) i ∧ ∀ m : Nat, m < j + 1 → ins[m]? ≠ some y2)) := hz2.out.one (fun h => h.2 j (by omega) (by rw [HQ.out, hqy]))
            clear hz2 hqy
            go_wp2_with fail
            go_quiet (fail)
            obtain ⟨W3, hW3⟩ : ∃ W3, wr.drewN nq = W3 := ⟨_, rfl⟩
            have hbd : Below wr.heap.size wr W3 := by rw [← hW3]; exact below_drewN' (Below.refl _ _) _
            rw [hW3]
            have HB := Lib.hid (below_next hbx.out hbd)
            clear hW3 hbd e1c e2c hbx
            go_wp2
            go_roundw
            case rel => exact ⟨j + 1, 1, by omega, rfl, by go_num, hN, HB⟩
            case measure => simp [intOf]; omega
          · have hqb : (q == y2) = false := by rw [beq_eq_false_iff_ne]; exact hqy
            have hN : Hid (WzJ z2 (Dst (ins.take k) i ∧ ∀ m : Nat, m < j + 1 → ins[m]? ≠ some y2)) := hz2.out.to ⟨fun h => ⟨h.1, fun m hm => h.2 m (by omega)⟩, fun h => ⟨h.1, fun m hm => by
              by_cases hmj : m = j
              · subst hmj
                rw [HQ.out]
                intro e
                injection e with e
                exact hqy e
              · exact h.2 m (by omega)⟩⟩
            clear hz2 hqy
            go_wp2_with fail
            go_quiet (fail)
            obtain ⟨W3, hW3⟩ : ∃ W3, wr.drewN nq = W3 := ⟨_, rfl⟩
            have hbd : Below wr.heap.size wr W3 := by rw [← hW3]; exact below_drewN' (Below.refl _ _) _
            rw [hW3]
            have HB := Lib.hid (below_next hbx.out hbd)
            clear hW3 hbd e1c e2c hbx
            go_wp2
            go_roundw
            case rel => exact ⟨j + 1, z2, by omega, rfl, by go_num, hN, HB⟩
            case measure => simp [intOf]; omega
        · have hlji : ¬ (j : Int) < k := by omega
          obtain ⟨m0, m1, m2⟩ := BxM.cells (MK.get (MT.next S4.out hbx.out) 1 rfl)
          have hz3 : Hid (WzJ z2 (Dst (ins.take k) i ∧ ∀ m : Nat, m < k → ins[m]? ≠ some y2)) := by
            obtain rfl : j = k := by omega
            exact hz2
          clear hz2
          by_cases hy0 : y2 < 0
          · have hy0d : decide (y2 < 0) = true := decide_eq_true hy0
            have hN : Hid (WzJ 1 (Dst (ins.take (k + 1)) i)) := hz3.out.one (fun h => by have := ((dst_snoc HY.out).1 h).2.2; omega)
            clear hz3
            go_wp2_with fail
            go_quiet (fail)
            obtain ⟨W3, hW3⟩ : ∃ W3, wr.drewN nq = W3 := ⟨_, rfl⟩
            have hbd : Below wr.heap.size wr W3 := by rw [← hW3]; exact below_drewN' (Below.refl _ _) _
            rw [hW3]
            have HB := Lib.hid (below_next hbx.out hbd)
            clear hW3 hbd e1c m0 m1 m2 hbx
            go_wp2
            go_roundw
            case rel => exact ⟨k + 1, 1, by omega, rfl, by go_num, hN, HB⟩
            case measure => simp [intOf]; omega
          · have hy0d : decide (y2 < 0) = false := decide_eq_false hy0
            by_cases hyi : (i : Int) ≤ y2
            · have hyid : decide ((i : Int) ≤ y2) = true := decide_eq_true hyi
              have hN : Hid (WzJ 1 (Dst (ins.take (k + 1)) i)) := hz3.out.one (fun h => by have := ((dst_snoc HY.out).1 h).2.2; omega)
              clear hz3
              go_wp2_with fail
              go_quiet (fail)
              obtain ⟨W3, hW3⟩ : ∃ W3, wr.drewN nq = W3 := ⟨_, rfl⟩
              have hbd : Below wr.heap.size wr W3 := by rw [← hW3]; exact below_drewN' (Below.refl _ _) _
              rw [hW3]
              have HB := Lib.hid (below_next hbx.out hbd)
              clear hW3 hbd e1c m0 m1 m2 hbx
              go_wp2
              go_roundw
              case rel => exact ⟨k + 1, 1, by omega, rfl, by go_num, hN, HB⟩
              case measure => simp [intOf]; omega
            · have hyid : decide ((i : Int) ≤ y2) = false := decide_eq_false hyi
              have hN : Hid (WzJ z2 (Dst (ins.take (k + 1)) i)) := hz3.out.to ⟨fun h => by have := (dst_snoc HY.out).1 h; exact ⟨this.1, this.2.1⟩, fun h => (dst_snoc HY.out).2 ⟨h.1, h.2, by omega, by omega⟩⟩
              clear hz3
              go_wp2_with fail
              go_quiet (fail)
              obtain ⟨W3, hW3⟩ : ∃ W3, wr.drewN nq = W3 := ⟨_, rfl⟩
              have hbd : Below wr.heap.size wr W3 := by rw [← hW3]; exact below_drewN' (Below.refl _ _) _
              rw [hW3]
              have HB := Lib.hid (below_next hbx.out hbd)
              clear hW3 hbd e1c m0 m1 m2 hbx
              go_wp2
              go_roundw
              case rel => exact ⟨k + 1, z2, by omega, rfl, by go_num, hN, HB⟩
              case measure => simp [intOf]; omega
    · have hlti : ¬ (k : Int) < L := by omega
      have hz4 : Hid (WzJ z (Dst ins i)) := by
        have h := hz.out
        rwa [List.take_of_length_le (by rw [HL.out]; omega)] at h
      have hbz := hbr
      clear hz hbr
      have hi9 : Hid (M.i.toNat = i) := by show _ = _; rw [hmi.out]; rfl
      have HRV : Hid (x = if 16 < L then 3 else if L = 0 ∨ ¬ Dst ins i then 1 else 0) := by
        show _ = _
        rw [← HXX.out, rech_val V.out, HL.out, hi9.out]
      by_cases h16 : 16 < L
      · have h16d : decide ((16 : Int) < L) = true := decide_eq_true (by omega)
        have h16i : (16 : Int) < L := by omega
        have hl0 : ((L : Int) == 0) = false := by rw [beq_eq_false_iff_ne]; omega
        have hxz : x = 3 := by rw [HRV.out, if_pos h16]
        subst hxz
        obtain ⟨rfl, rfl, rfl, rfl, rfl⟩ : ri = 0 ∧ ro = 0 ∧ RP = none ∧ rk = 0 ∧ rk' = 0 := by
          rcases HRE.out with ⟨_, h⟩ | ⟨h, _⟩
          · exact h
          · exact absurd h (by decide)
        have sE := MT.next S4.out hbz.out
        obtain ⟨m0, m1, m2⟩ := BxM.cells (MK.get sE 0 rfl)
        clear HRE
        go_wp2_with fail
        clear m0 m1 m2
        refine (nothing_yes 3 _).mono ?_
        rintro e w8 ⟨rfl, hb8⟩
        have sE2 := MT.next sE hb8
        clear sE hb8
        go_wp2_with fail
        refine (jlives_walk _).mono ?_
        rintro e w9 ⟨rfl, hb9⟩
        have hfin := Lib.hid (MT.next sE2 hb9).2.1
        clear sE2 hb9
        go_wp2
        go_ret
        exact ⟨rfl, hfin.out⟩

      · have h16d : decide ((16 : Int) < L) = false := decide_eq_false (by omega)
        have h16i : ¬ (16 : Int) < L := by omega
        by_cases hl0 : L = 0
        · have hl0b : ((L : Int) == 0) = true := by rw [beq_iff_eq]; omega
          have hl0i : (L : Int) = 0 := by omega
          have hxz : x = 1 := by rw [HRV.out, if_neg h16, if_pos (Or.inl hl0)]
          subst hxz
          obtain ⟨rfl, rfl, rfl, rfl, rfl⟩ : ri = 0 ∧ ro = 0 ∧ RP = none ∧ rk = 0 ∧ rk' = 0 := by
            rcases HRE.out with ⟨_, h⟩ | ⟨h, _⟩
            · exact h
            · exact absurd h (by decide)
          have sE := MT.next S4.out hbz.out
          obtain ⟨m0, m1, m2⟩ := BxM.cells (MK.get sE 0 rfl)
          clear HRE
          go_wp2_with fail
          clear m0 m1 m2
          refine (nothing_yes 1 _).mono ?_
          rintro e w8 ⟨rfl, hb8⟩
          have sE2 := MT.next sE hb8
          clear sE hb8
          go_wp2_with fail
          refine (jlives_walk _).mono ?_
          rintro e w9 ⟨rfl, hb9⟩
          have hfin := Lib.hid (MT.next sE2 hb9).2.1
          clear sE2 hb9
          go_wp2
          go_ret
          exact ⟨rfl, hfin.out⟩

        · have hl0b : ((L : Int) == 0) = false := by rw [beq_eq_false_iff_ne]; omega
          have hl0i : ¬ (L : Int) = 0 := by omega
          rcases hz4.out with ⟨rfl, hD⟩ | ⟨rfl, hD⟩
          · have hx0 : x = 0 := by rw [HRV.out, if_neg h16, if_neg (fun h => h.elim hl0 (fun h => h hD))]
            obtain ⟨P, rfl, rfl, rfl, hnk, hnk', hX⟩ : ∃ P, RP = some ⟨P, 0, none⟩ ∧ ri = L ∧ ro = o ∧ n = rk ∧ n = rk' ∧ Ex w4 P n (resT M ins) := by
              rcases HRE.out with ⟨h, _⟩ | ⟨_, h2, h3, P, h4, h5, h6, h7⟩
              · exact absurd hx0 h
              · exact ⟨P, h4, h2, h3, h5.symm, h6.symm, h7⟩
            subst hnk hnk' hx0
            have HXP := Lib.hid hX
            have HDI : Hid (Dst ins M.i.toNat) := by show Dst _ _; rw [hi9.out]; exact hD
            clear HRE hX hz4 hD
            have sE := MT.next S4.out hbz.out
            obtain ⟨m0, m1, m2⟩ := BxM.cells (MK.get sE 0 rfl)
            obtain ⟨g0, g1, g2⟩ := BxM.cells (MK.get sE 1 rfl)
            have hLL : ((L : Int) != L) = false := by simp
            have hoo : ((o : Int) != o) = false := by simp
            have hnn : ((n : Int) != n) = false := by simp
            go_wp2_with fail
            clear m0 m1 m2 g0 g1 g2
            refine (clipped_yes L o (resT M ins) P n _ (HXP.out.below hbz.out)).mono ?_
            rintro e w5 ⟨rfl, hb5⟩
            have HB5 := Lib.hid (below_next hbz.out hb5)
            clear sE hb5 hbz
            have sE := MT.next S4.out HB5.out
            obtain ⟨m0, m1, m2⟩ := BxM.cells (MK.get sE 0 rfl)
            obtain ⟨g0, g1, g2⟩ := BxM.cells (MK.get sE 1 rfl)
            have hz2 : w5.heap[K0 + 1]? = some (.cells #[.slice B1 F1 e1] 48) := MK.get sE 2 rfl
            have z0 : w5.cell? ⟨K0 + 1, 0, none⟩ = some (.slice B1 F1 e1) := by rw [cell_of_row _ _ _ _ _ _ hz2]; rfl
            have CW := wof_atJ B1 e1 ws L w5 (HR8.out.below sE.2.1) (by omega) (by omega) HLW.out
            rw [HF1.out] at CW
            obtain ⟨Y, hY⟩ : ∃ Y, Go.Proofs.Ytcbmohcjmofomaa.M.sym L ws = Y := ⟨_, rfl⟩
            rw [hY] at CW
            have VR := Lib.hid (res_val V.out HDI.out (by rw [HL.out]; omega) (by rw [HL.out]; omega))
            have HWR : Hid (Mc.Wd (resM M ins) Y) := by show Mc.Wd _ _; rw [← hY]; exact sym_wdJ (by show ((ins.length : Nat) : Int) = _; rw [HL.out]) (by omega)
            have HCW := Lib.hid CW
            clear CW hY sE hz2
            go_wp2_with fail
            clear m0 m1 m2 g0 g1 g2 z0
            refine HCW.out.mono ?_
            rintro e w6 ⟨UB, ku, qu, rfl, hku, h12, hru, hkq, hb6⟩
            have HB6 := Lib.hid (below_next HB5.out hb6)
            have HRU := Lib.hid hru
            have HI6 := Lib.hid (HI4.out.below HB6.out)
            clear HCW hb6 hru HB5 HI4
            have hku' : Hid (Y.length = ku) := hku
            go_wp2_with fail
            go_loopw [14, 15] (fun u v wr => ∃ (k : Nat) (xs : List Int), k ≤ ku ∧ v = .int .i64 k ∧ Hid (xs = (Y.take k).map (gzJ ins)) ∧ wr.ownsRow w6.heap.size 3 1 u xs.length (ints xs) ∧ Hid (Below w6.heap.size w6 wr)) (fun _ v _ => ku - (intOf v).toNat)
            case atStart => exact ⟨0, [], Nat.zero_le _, rfl, by show _ = _; simp, World.ownsRow_nil _ _ _ _, Below.refl _ _⟩
            case round =>
              obtain ⟨k, xs, hk, rfl, hxs, hown, hb⟩ := hrel
              have hxl : Hid (xs.length = k) := by show _ = _; rw [hxs.out, List.length_map, List.length_take, hku'.out]; omega
              by_cases hlt : k < ku
              · have hlti : (k : Int) < ku := by omega
                obtain ⟨bU, oU, y, rfl, _, u0, hy⟩ := rd_nth (HRU.out.below hb.out) (k := k) (by rw [hku'.out]; exact hlt)
                have hyr := HWR.out y (List.mem_of_getElem? hy)
                have hyL : 0 ≤ y ∧ y < L := by rw [← HL.out]; exact hyr
                obtain ⟨t, rfl⟩ := Int.eq_ofNat_of_zero_le hyL.1
                have htL : t < L := by omega
                have htLi : (t : Int) < L := by omega
                obtain ⟨bI, oI, q, rfl, _, q0, hq⟩ := rd_nth (HI6.out.below hb.out) (k := t) (by rw [HL.out]; exact htL)
                have hN : Hid (xs ++ [q] = (Y.take (k + 1)).map (gzJ ins)) := by
                  show _ = _
                  rw [hxs.out, List.take_add_one, hy, List.map_append]
                  simp [gzJ, hq]
                have hsz := hb.out.size
                have hxl6 : xs.length ≤ 1000000 := by have := hxl.out; omega
                clear hy hq hyr hyL hxs
                go_wp2_with (at_builtin; refine wpList_append_intJ _ q hown hxl6 hsz hb.out rfl _ _ rfl rfl rfl ?_)
                intro v1 wr1 hown1 hb1
                have HBB := Lib.hid hb1
                clear hown u0 q0 hb hb1 hsz
                go_wp2
                go_roundw
                case rel => exact ⟨k + 1, _, by omega, by go_num, hN, (by rw [List.length_append]; exact hown1), HBB⟩
                case measure => simp [intOf]; omega
              · have hlti : ¬ (k : Int) < ku := by omega
                obtain ⟨Z, hZ⟩ : ∃ Z, Y.map (gzJ ins) = Z := ⟨_, rfl⟩
                have hxz : xs = Z := by rw [hxs.out, List.take_of_length_le (by rw [hku'.out]; omega)]; exact hZ
                subst hxz
                have hxk : xs.length = ku := by have := hxl.out; omega
                rw [hxk] at hown
                obtain ⟨VA, vc, rfl, hrv, hvc⟩ := own_formJ hown
                have HKX := Lib.hid hxk
                have HRV2 := Lib.hid hrv
                have HZ := Lib.hid hZ
                have HB7 := Lib.hid (below_next HB6.out hb.out)
                have HRU7 := Lib.hid (HRU.out.below hb.out)
                clear hown hrv hxk hxl hxs hZ hb HRU HI6
                obtain ⟨w7, hw7⟩ : ∃ q, q = wr := ⟨_, rfl⟩
                rw [← hw7] at HRV2 HB7 HRU7 ⊢
                clear hw7
                have HRX := Lib.hid (HXP.out.below HB7.out)
                have S7 := Lib.hid (MT.next S4.out HB7.out)
                have HS : Hid (∀ W : World, Below w7.heap.size w7 W → (W.cell? ⟨T, 0, none⟩ = some (.int .i64 L) ∧ W.cell? ⟨T, 1, none⟩ = some (.int .i64 o) ∧ W.cell? ⟨T, 2, none⟩ = some (.slice (some ⟨P, 0, none⟩) n n) ∧ W.cell? ⟨G, 0, none⟩ = some (.int .i64 i) ∧ W.cell? ⟨G, 1, none⟩ = some (.int .i64 o) ∧ W.cell? ⟨G, 2, none⟩ = some (.slice R n c1))) := fun W hb => by
                  have s6 := MT.next S7.out hb
                  obtain ⟨a0, a1, a2⟩ := BxM.cells (MK.get s6 0 rfl)
                  obtain ⟨b0, b1, b2⟩ := BxM.cells (MK.get s6 1 rfl)
                  exact ⟨a0, a1, a2, b0, b1, b2⟩
                have HWZ : Hid (Mc.Wd M xs) := by show Mc.Wd _ _; rw [← HZ.out]; exact res_wd HDI.out HWR.out
                have HRL : Hid ((resM M ins).r.length = n) := by show _ = _; rw [res_len, hlen.out]
                have HRI : Hid ((resM M ins).i = L) := by show ((ins.length : Nat) : Int) = _; rw [HL.out]
                have HQ : Hid (∀ s : Nat, s < n → Mc.run (resM M ins) s Y = Mc.run M s xs ∧ Mc.aft (resM M ins) s Y = Mc.aft M s xs) := fun s hs => by
                  rw [← HZ.out]
                  exact res_run V.out HDI.out Y s (Or.inr ⟨by omega, by rw [hlen.out]; omega⟩) HWR.out
                have CR1 : Hid (∀ (wr : World) (s : Nat), Below w7.heap.size w7 wr → s < n → Calls Try.prog 26 #[.agg #[.int .i64 L, .int .i64 o, .slice (some ⟨P, 0, none⟩) n n], .int .i64 s, .slice UB ku qu] wr fun e w' => ∃ B q, e = .returned (.slice B ku q) ∧ Rd w' B (Mc.run M s xs) ∧ Below wr.heap.size wr w') := fun wr s hb hs => by
                  have h := rrun_atJ (resM M ins) L o (some ⟨P, 0, none⟩) n n wr s UB ku qu Y VR.out HRI.out hmo.out HRL.out hku'.out (Ex.rd (HRX.out.below hb)) (HRU7.out.below hb) (Or.inr ⟨by omega, by rw [HRL.out]; omega⟩) HWR.out (by omega)
                  rwa [(HQ.out s hs).1] at h
                have CR2 : Hid (∀ (wr : World) (s : Nat), Below w7.heap.size w7 wr → s < n → Calls Try.prog 26 #[.agg #[.int .i64 i, .int .i64 o, .slice R n c1], .int .i64 s, .slice VA ku vc] wr fun e w' => ∃ B q, e = .returned (.slice B ku q) ∧ Rd w' B (Mc.run M s xs) ∧ Below wr.heap.size wr w') := fun wr s hb hs =>
                  rrun_atJ M i o R n c1 wr s VA ku vc xs V.out hmi.out hmo.out hlen.out HKX.out (MK.get (MT.next S7.out hb) 3 rfl) (HRV2.out.below hb) (Or.inr ⟨by omega, by rw [hlen.out]; omega⟩) HWZ.out (by omega)
                have CA1 : Hid (∀ (wr : World) (s : Nat) (f : Int), Below w7.heap.size w7 wr → s < n → Mc.aft M s xs = f → Calls Try.prog 40 #[.agg #[.int .i64 L, .int .i64 o, .slice (some ⟨P, 0, none⟩) n n], .int .i64 s, .slice UB ku qu] wr fun e w' => e = .returned (.int .i64 f) ∧ Below wr.heap.size wr w') := fun wr s f hb hs hf => by
                  have h := rafter_atJ (resM M ins) L o (some ⟨P, 0, none⟩) n n wr UB ku qu Y s VR.out HRI.out hmo.out HRL.out hku'.out hkq (Ex.rd (HRX.out.below hb)) (HRU7.out.below hb) (Or.inr ⟨by omega, by rw [HRL.out]; omega⟩) HWR.out
                  rwa [(HQ.out s hs).2, hf] at h
                have CA2 : Hid (∀ (wr : World) (s : Nat) (f : Int), Below w7.heap.size w7 wr → s < n → Mc.aft M s xs = f → Calls Try.prog 40 #[.agg #[.int .i64 i, .int .i64 o, .slice R n c1], .int .i64 s, .slice VA ku vc] wr fun e w' => e = .returned (.int .i64 f) ∧ Below wr.heap.size wr w') := fun wr s f hb hs hf => by
                  have h := rafter_atJ M i o R n c1 wr VA ku vc xs s V.out hmi.out hmo.out hlen.out HKX.out hvc (MK.get (MT.next S7.out hb) 3 rfl) (HRV2.out.below hb) (Or.inr ⟨by omega, by rw [hlen.out]; omega⟩) HWZ.out
                  rwa [hf] at h
                go_wp2_with fail
                go_loopw [16] (fun v wr => ∃ s : Nat, s ≤ n ∧ v = .int .i64 s ∧ Hid (Below w7.heap.size w7 wr)) (fun v _ => n - (intOf v).toNat)
                case atStart => exact ⟨0, Nat.zero_le _, rfl, Below.refl _ _⟩
                case round =>
                  obtain ⟨s, hs, rfl, hb⟩ := hrel
                  have HD : Hid (Below wr.heap.size wr wr.drew) := (Below.refl _ _).drew
                  have s0 := HS.out _ hb.out
                  have sD := HS.out _ (below_next hb.out HD.out)
                  obtain ⟨a0, a1, a2, b0, b1, b2⟩ := HS.out _ hb.out
                  by_cases hlt : s < n
                  · have hlt' : (s : Int) < n := by omega
                    obtain ⟨f, hf⟩ : ∃ f, Mc.aft M s xs = f := ⟨_, rfl⟩
                    have HF := Lib.hid hf
                    have hff : (f != f) = false := by simp
                    clear hf
                    go_wp2_with fail
                    go_region_held3 (fun W => (W.cell? ⟨T, 0, none⟩ = some (.int .i64 L) ∧ W.cell? ⟨T, 1, none⟩ = some (.int .i64 o) ∧ W.cell? ⟨T, 2, none⟩ = some (.slice (some ⟨P, 0, none⟩) n n) ∧ W.cell? ⟨G, 0, none⟩ = some (.int .i64 i) ∧ W.cell? ⟨G, 1, none⟩ = some (.int .i64 o) ∧ W.cell? ⟨G, 2, none⟩ = some (.slice R n c1)))
                      (first | (with_reducible exact s5) | (with_reducible exact s4) | (with_reducible exact s3) | (with_reducible exact s2) | (with_reducible exact s1) | (with_reducible exact s0) | (with_reducible exact sD) | go_keep)
                      (first
                        | (go_at_call 26
                           (with_reducible refine (CR1.out _ s (below_next hb.out HD.out) hlt).mono ?_)
                           rintro e z1 ⟨B8, e8, rfl, hr8, hz1⟩
                           have t1 := Lib.hid (below_next HD.out hz1)
                           have s1 := HS.out _ (below_next hb.out t1.out)
                           dsimp only)
                        | (go_at_call 26
                           (with_reducible refine (CR2.out _ s (below_next hb.out t1.out) hlt).mono ?_)
                           rintro e z2 ⟨B9, e9, rfl, hr9, hz2⟩
                           have t2 := Lib.hid (below_next t1.out hz2)
                           have s2 := HS.out _ (below_next hb.out t2.out)
                           dsimp only)
                        | (go_at_call 39
                           (with_reducible refine (same_yesJ B8 B9 ku e8 e9 _ _ _ (hr8.below hz2) hr9 ((Mc.run_len _ _ _).trans HKX.out) rfl (by omega)).mono ?_)
                           rintro e z3 ⟨rfl, hz3⟩
                           have t3 := Lib.hid (below_next t2.out hz3)
                           have s3 := HS.out _ (below_next hb.out t3.out)
                           dsimp only)
                        | (go_at_call 40
                           (with_reducible refine (CA1.out _ s f (below_next hb.out t3.out) hlt HF.out).mono ?_)
                           rintro e z4 ⟨rfl, hz4⟩
                           have t4 := Lib.hid (below_next t3.out hz4)
                           have s4 := HS.out _ (below_next hb.out t4.out)
                           dsimp only)
                        | (go_at_call 40
                           (with_reducible refine (CA2.out _ s f (below_next hb.out t4.out) hlt HF.out).mono ?_)
                           rintro e z5 ⟨rfl, hz5⟩
                           have t5 := Lib.hid (below_next t4.out hz5)
                           have s5 := HS.out _ (below_next hb.out t5.out)
                           dsimp only)
                        | fail)
                    have HZ3 := Lib.hid (below_next hb.out t5.out)
                    clear s0 s1 s2 s3 s4 s5 sD a0 a1 a2 b0 b1 b2 t1 t2 t3 t4 t5 hz1 hz2 hz3 hz4 hz5 hr8 hr9
                    go_wp2
                    go_roundw
                    case rel => exact ⟨s + 1, by omega, by go_num, HZ3⟩
                    case measure => simp [intOf]; omega
                  · have hlt' : ¬ (s : Int) < n := by omega
                    have HX9 := Lib.hid (MT.next S7.out hb.out)
                    clear s0 sD
                    go_wp2_with fail
                    clear a0 a1 a2 b0 b1 b2
                    refine (jlives_walk _).mono ?_
                    rintro e w9 ⟨rfl, hb9⟩
                    have hfin := Lib.hid (MT.next HX9.out hb9).2.1
                    clear hb9
                    go_wp2
                    go_ret
                    exact ⟨rfl, hfin.out⟩
          · clear hz4
            have hxz : x = 1 := by rw [HRV.out, if_neg h16, if_pos (Or.inr hD)]
            subst hxz
            obtain ⟨rfl, rfl, rfl, rfl, rfl⟩ : ri = 0 ∧ ro = 0 ∧ RP = none ∧ rk = 0 ∧ rk' = 0 := by
              rcases HRE.out with ⟨_, h⟩ | ⟨h, _⟩
              · exact h
              · exact absurd h (by decide)
            have sE := MT.next S4.out hbz.out
            obtain ⟨m0, m1, m2⟩ := BxM.cells (MK.get sE 0 rfl)
            clear HRE
            go_wp2_with fail
            clear m0 m1 m2
            refine (nothing_yes 1 _).mono ?_
            rintro e w8 ⟨rfl, hb8⟩
            have sE2 := MT.next sE hb8
            clear sE hb8
            go_wp2_with fail
            refine (jlives_walk _).mono ?_
            rintro e w9 ⟨rfl, hb9⟩
            have hfin := Lib.hid (MT.next sE2 hb9).2.1
            clear sE2 hb9
            go_wp2
            go_ret
            exact ⟨rfl, hfin.out⟩

end Go.Proofs.Ytcbmohcjmofomaa
