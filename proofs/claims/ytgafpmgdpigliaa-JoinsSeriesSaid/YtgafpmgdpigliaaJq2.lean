/-
  The walk of the law JoinsSeries. No statement is proved here.
-/
import Derived.Test.YtgafpmgdpigliaaJb2
import Derived.Test.YtgafpmgdpigliaaJsZ
import Derived.Test.YtgafpmgdpigliaaJxZ
import Derived.Deep.RegionHeld3
import Derived.Deep.CutRange
import Derived.Deep.CutBlock
import Derived.Deep.QuietTactic
namespace Go.Proofs.Ytgafpmgdpigliaa
open Go.RowKit
open Mc (Ed Ma)

theorem Wd_ofQ {m m' : Ma} {w : List Int} (h : Mc.Wd m w) (hi : m.i = m'.i) : Mc.Wd m' w := fun c hc => by rw [← hi]; exact h c hc
set_option maxRecDepth 100000 in
set_option maxHeartbeats 4000000 in
theorem jser_walk (a b d : Int) (p : Bool) (A : Option Addr) (c : Nat) (es : List Int) (a' b' d' : Int) (p' : Bool) (A' : Option Addr) (c' : Nat) (es' : List Int) (a9 b9 d9 : Int) (p9 : Bool) (A9 : Option Addr) (c9 : Nat) (es9 : List Int) (B1 : Option Addr) (e1 : Nat) (ws : List Int) (w : World)
    (hr : Rd16 w A es) (hr' : Rd16 w A' es') (hr9 : Rd16 w A9 es9) (hr8 : Rd8 w B1 ws) (hl : es.length ≤ 9223372036854775807) (hl' : es'.length ≤ 9223372036854775807) (hl9 : es9.length ≤ 9223372036854775807) (hlw : ws.length ≤ 9223372036854775807)
    (ha : 0 ≤ a ∧ a ≤ 255) (hb : 0 ≤ b ∧ b ≤ 255) (hd : 0 ≤ d ∧ d ≤ 255) (ha' : 0 ≤ a' ∧ a' ≤ 255) (hd' : 0 ≤ d' ∧ d' ≤ 255) (ha9 : 0 ≤ a9 ∧ a9 ≤ 255) (hd9 : 0 ≤ d9 ∧ d9 ≤ 255) :
    Calls Try.prog 4 #[.agg #[.int .u8 a, .int .u8 b, .int .u8 d, .bool p, .slice A es.length c], .agg #[.int .u8 a', .int .u8 b', .int .u8 d', .bool p', .slice A' es'.length c'], .agg #[.int .u8 a9, .int .u8 b9, .int .u8 d9, .bool p9, .slice A9 es9.length c9, .slice B1 ws.length e1]] w fun e w' => e = .returned (.bool true) ∧ Below w.heap.size w w' := by
  obtain ⟨E1, hE1⟩ : ∃ E, es.length = E := ⟨_, rfl⟩
  obtain ⟨E2, hE2⟩ : ∃ E, es'.length = E := ⟨_, rfl⟩
  obtain ⟨E3, hE3⟩ : ∃ E, es9.length = E := ⟨_, rfl⟩
  obtain ⟨F1, hF1⟩ : ∃ E, ws.length = E := ⟨_, rfl⟩
  obtain ⟨n, hn⟩ : ∃ n : Nat, 1 + a % 6 = n := ⟨(1 + a % 6).toNat, by omega⟩
  obtain ⟨i, hi⟩ : ∃ i : Nat, 1 + b % 3 = i := ⟨(1 + b % 3).toNat, by omega⟩
  obtain ⟨o, ho⟩ : ∃ o : Nat, 1 + d % 3 = o := ⟨(1 + d % 3).toNat, by omega⟩
  obtain ⟨n', hn'⟩ : ∃ n' : Nat, 1 + a' % 6 = n' := ⟨(1 + a' % 6).toNat, by omega⟩
  obtain ⟨o', ho'⟩ : ∃ o' : Nat, 1 + d' % 3 = o' := ⟨(1 + d' % 3).toNat, by omega⟩
  obtain ⟨n9, hn9⟩ : ∃ n' : Nat, 1 + a9 % 6 = n' := ⟨(1 + a9 % 6).toNat, by omega⟩
  obtain ⟨o9, ho9⟩ : ∃ o' : Nat, 1 + d9 % 3 = o' := ⟨(1 + d9 % 3).toNat, by omega⟩
  have CM := fun w hr => mofB_at a b d p A c es n i o w hr hl ha hb hd hn hi ho
  have CN := fun w hr => mofB_at a' d d' p' A' c' es' n' o o' w hr hl' ha' hd hd' hn' ho ho'
  have CQ := fun w hr => mofB_at a9 d' d9 p9 A9 c9 es9 n9 o' o9 w hr hl9 ha9 hd' hd9 hn9 ho' ho9
  have hn6 : n ≤ 6 := by omega
  have hn1 : 1 ≤ n := by omega
  have hi1 : 1 ≤ i := by omega
  have hi3 : i ≤ 3 := by omega
  have ho1 : 1 ≤ o := by omega
  have ho3 : o ≤ 3 := by omega
  have ho1' : 1 ≤ o' := by omega
  have ho3' : o' ≤ 3 := by omega
  have hn6' : n' ≤ 6 := by omega
  have hn1' : 1 ≤ n' := by omega
  have ho19 : 1 ≤ o9 := by omega
  have ho39 : o9 ≤ 3 := by omega
  have hn69 : n9 ≤ 6 := by omega
  have hn19 : 1 ≤ n9 := by omega
  have V := Lib.hid (Mc.mkN_val (p := p) (n := n) (i := i) (o := o) (es := es) (by omega) (by omega) (by omega) (by omega) (by omega) (by omega))
  have V' := Lib.hid (Mc.mkN_val (p := p') (n := n') (i := o) (o := o') (es := es') (by omega) (by omega) (by omega) (by omega) (by omega) (by omega))
  have V9 := Lib.hid (Mc.mkN_val (p := p9) (n := n9) (i := o') (o := o9) (es := es9) (by omega) (by omega) (by omega) (by omega) (by omega) (by omega))
  have hlen : Hid ((Mc.mkN p n i o es).r.length = n) := Mc.mkN_len _ _ _ _ _
  have hlen' : Hid ((Mc.mkN p' n' o o' es').r.length = n') := Mc.mkN_len _ _ _ _ _
  have hlen9 : Hid ((Mc.mkN p9 n9 o' o9 es9).r.length = n9) := Mc.mkN_len _ _ _ _ _
  have hmi : Hid ((Mc.mkN p n i o es).i = i) := rfl
  have hmo : Hid ((Mc.mkN p n i o es).o = o) := rfl
  have hmi' : Hid ((Mc.mkN p' n' o o' es').i = o) := rfl
  have hmo' : Hid ((Mc.mkN p' n' o o' es').o = o') := rfl
  have hmi9 : Hid ((Mc.mkN p9 n9 o' o9 es9).i = o') := rfl
  have hmo9 : Hid ((Mc.mkN p9 n9 o' o9 es9).o = o9) := rfl
  obtain ⟨M, hM⟩ : ∃ M, Mc.mkN p n i o es = M := ⟨_, rfl⟩
  obtain ⟨N, hN⟩ : ∃ N, Mc.mkN p' n' o o' es' = N := ⟨_, rfl⟩
  obtain ⟨Q, hQ⟩ : ∃ N, Mc.mkN p9 n9 o' o9 es9 = N := ⟨_, rfl⟩
  rw [hM] at V hlen hmi hmo
  rw [hN] at V' hlen' hmi' hmo'
  rw [hQ] at V9 hlen9 hmi9 hmo9
  simp only [hM, hE1] at CM
  simp only [hN, hE2] at CN
  simp only [hQ, hE3] at CQ
  clear hM hN hQ ha hb hd hn hi ho hl ha' hd' hn' ho' hl' ha9 hd9 hn9 ho9 hl9
  have CW := fun w h => wof_atJ B1 e1 ws i w h hi1 (by omega) hlw
  have HW := Lib.hid (sym_wdJ (m := M) (i := i) (zs := ws) hmi.out (by omega))
  obtain ⟨Y, hY⟩ : ∃ Y, Go.Proofs.Ytgafpmgdpigliaa.M.sym i ws = Y := ⟨_, rfl⟩
  rw [hY] at HW
  simp only [hY, hF1] at CW
  have HR := Lib.hid hr
  have HR' := Lib.hid hr'
  have HR9 := Lib.hid hr9
  have HR8 := Lib.hid hr8
  have HCW := Lib.hid CW
  rw [hE1, hE2, hE3, hF1]
  clear hr hr' hr9 hr8 hE1 hE2 hE3 hF1 hY hlw CW
  obtain ⟨K0, hK0⟩ : ∃ K0, w.heap.size = K0 := ⟨_, rfl⟩
  have hB0 : Below w.heap.size w (((w.alloc (.cells #[.int .u8 a, .int .u8 b, .int .u8 d, .bool p, .slice A E1 c] 40)).alloc (.cells #[.int .u8 a', .int .u8 b', .int .u8 d', .bool p', .slice A' E2 c'] 40)).alloc (.cells #[.int .u8 a9, .int .u8 b9, .int .u8 d9, .bool p9, .slice A9 E3 c9, .slice B1 F1 e1] 54)) := (((Below.refl _ _).alloc (Nat.le_refl _) _).alloc (by simp) _).alloc (by simp; omega) _
  have hX0 : BxX (((w.alloc (.cells #[.int .u8 a, .int .u8 b, .int .u8 d, .bool p, .slice A E1 c] 40)).alloc (.cells #[.int .u8 a', .int .u8 b', .int .u8 d', .bool p', .slice A' E2 c'] 40)).alloc (.cells #[.int .u8 a9, .int .u8 b9, .int .u8 d9, .bool p9, .slice A9 E3 c9, .slice B1 F1 e1] 54)) K0 a b d p A E1 c := by
    have h : BxX (w.alloc (.cells #[.int .u8 a, .int .u8 b, .int .u8 d, .bool p, .slice A E1 c] 40)) K0 a b d p A E1 c := by rw [← hK0]; exact heap_alloc_new w _
    exact (h.below ((Below.refl _ _).alloc (Nat.le_refl _) _)).below ((Below.refl _ _).alloc (Nat.le_refl _) _)
  have hY0 : BxX (((w.alloc (.cells #[.int .u8 a, .int .u8 b, .int .u8 d, .bool p, .slice A E1 c] 40)).alloc (.cells #[.int .u8 a', .int .u8 b', .int .u8 d', .bool p', .slice A' E2 c'] 40)).alloc (.cells #[.int .u8 a9, .int .u8 b9, .int .u8 d9, .bool p9, .slice A9 E3 c9, .slice B1 F1 e1] 54)) (K0 + 1) a' b' d' p' A' E2 c' := by
    have h : BxX ((w.alloc (.cells #[.int .u8 a, .int .u8 b, .int .u8 d, .bool p, .slice A E1 c] 40)).alloc (.cells #[.int .u8 a', .int .u8 b', .int .u8 d', .bool p', .slice A' E2 c'] 40)) (K0 + 1) a' b' d' p' A' E2 c' := by
      have h := heap_alloc_new (w.alloc (.cells #[.int .u8 a, .int .u8 b, .int .u8 d, .bool p, .slice A E1 c] 40)) (.cells #[.int .u8 a', .int .u8 b', .int .u8 d', .bool p', .slice A' E2 c'] 40)
      rw [World.size_alloc, hK0] at h
      exact h
    exact h.below ((Below.refl _ _).alloc (Nat.le_refl _) _)
  have hZ0 : BxZ (((w.alloc (.cells #[.int .u8 a, .int .u8 b, .int .u8 d, .bool p, .slice A E1 c] 40)).alloc (.cells #[.int .u8 a', .int .u8 b', .int .u8 d', .bool p', .slice A' E2 c'] 40)).alloc (.cells #[.int .u8 a9, .int .u8 b9, .int .u8 d9, .bool p9, .slice A9 E3 c9, .slice B1 F1 e1] 54)) (K0 + 1 + 1) a9 b9 d9 p9 A9 E3 c9 B1 F1 e1 := by
    have h := heap_alloc_new ((w.alloc (.cells #[.int .u8 a, .int .u8 b, .int .u8 d, .bool p, .slice A E1 c] 40)).alloc (.cells #[.int .u8 a', .int .u8 b', .int .u8 d', .bool p', .slice A' E2 c'] 40)) (.cells #[.int .u8 a9, .int .u8 b9, .int .u8 d9, .bool p9, .slice A9 E3 c9, .slice B1 F1 e1] 54)
    rw [World.size_alloc, World.size_alloc, hK0] at h
    exact h
  have hKw : Hid (w.heap.size ≤ K0) := by show _ ≤ _; omega
  go_enter Try.func4, Try.ntmps4
  go_upto_region 1 with fail
  obtain ⟨W0, hW0⟩ : ∃ W0, (((w.alloc (.cells #[.int .u8 a, .int .u8 b, .int .u8 d, .bool p, .slice A E1 c] 40)).alloc (.cells #[.int .u8 a', .int .u8 b', .int .u8 d', .bool p', .slice A' E2 c'] 40)).alloc (.cells #[.int .u8 a9, .int .u8 b9, .int .u8 d9, .bool p9, .slice A9 E3 c9, .slice B1 F1 e1] 54)) = W0 := ⟨_, rfl⟩
  rw [hW0] at hB0 hX0 hY0 hZ0
  try rw [hW0]
  try rw [hK0]
  have HB0 := Lib.hid hB0
  have HX0 := Lib.hid hX0
  have HY0 := Lib.hid hY0
  have HZ0 := Lib.hid hZ0
  clear hW0 hK0 hB0 hX0 hY0 hZ0
  -- the second machine's inputs
  obtain ⟨a0, a1, a2, a3, a4⟩ := HX0.out.cells
  obtain ⟨b0, b1, b2, b3, b4⟩ := HY0.out.cells
  go_wp2_with fail
  clear a0 a1 a2 a3 a4 b0 b1 b2 b3 b4
  refine (jbehind_any a b d p A E1 c a' b' d' p' A' E2 c' _).mono ?_
  rintro e w1 ⟨rfl, hb1⟩
  have HB1 := Lib.hid (below_next HB0.out hb1)
  have HX1 := Lib.hid (HX0.out.below hb1)
  have HY1 := Lib.hid (HY0.out.below hb1)
  have HZ1 := Lib.hid (HZ0.out.below hb1)
  clear hb1 HB0 HX0 HY0 HZ0
  obtain ⟨b0, b1, b2, b3, b4⟩ := HY1.out.cells
  have f0 := HY1.out.frozen 0
  have f1 := HY1.out.frozen 1
  have f2 := HY1.out.frozen 2
  have f3 := HY1.out.frozen 3
  have f4 := HY1.out.frozen 4
  have hX2 := HX1.out.far5 (G := K0 + 1) (by omega) (.int .u8 a') (.int .u8 d) (.int .u8 d') (.bool p') (.slice A' E2 c')
  have hY2 := HY1.out.set5_ (a' := a') (b' := d) (d' := d') (p' := p') (A' := A') (n' := E2) (c' := c')
  have hZ2 := HZ1.out.far (G := K0 + 1) (by omega) (.int .u8 a') (.int .u8 d) (.int .u8 d') (.bool p') (.slice A' E2 c')
  have hB2 := below_set5 HB1.out (g := K0 + 1) (by have := hKw.out; omega) (.int .u8 a') (.int .u8 d) (.int .u8 d') (.bool p') (.slice A' E2 c')
  have HX2 := Lib.hid hX2
  have HY2 := Lib.hid hY2
  have HZ2 := Lib.hid hZ2
  have HB2 := Lib.hid hB2
  clear hX2 hY2 hZ2 hB2 HX1 HY1 HZ1 HB1
  go_upto_region 2 with fail
  clear b0 b1 b2 b3 b4 f0 f1 f2 f3 f4
  obtain ⟨W2, hW2⟩ : ∃ W, ((((w1.setCell ⟨K0 + 1, 0, none⟩ (Value.int .u8 a')).setCell ⟨K0 + 1, 1, none⟩ (Value.int .u8 d)).setCell ⟨K0 + 1, 2, none⟩ (Value.int .u8 d')).setCell ⟨K0 + 1, 3, none⟩ (Value.bool p')).setCell ⟨K0 + 1, 4, none⟩ (Value.slice A' E2 c') = W := ⟨_, rfl⟩
  have hW2' : set5 w1 (K0 + 1) (.int .u8 a') (.int .u8 d) (.int .u8 d') (.bool p') (.slice A' E2 c') = W2 := hW2
  rw [hW2'] at HX2 HY2 HZ2 HB2
  rw [hW2]
  clear hW2 hW2'
  -- the third machine's inputs
  obtain ⟨b0, b1, b2, b3, b4⟩ := HY2.out.cells
  obtain ⟨z0, z1, z2, z3, z4, z5⟩ := HZ2.out.cells
  go_wp2_with fail
  clear b0 b1 b2 b3 b4 z0 z1 z2 z3 z4 z5
  refine (jbehind_any a' d d' p' A' E2 c' a9 b9 d9 p9 A9 E3 c9 _).mono ?_
  rintro e w3 ⟨rfl, hb3⟩
  have HB3 := Lib.hid (below_next HB2.out hb3)
  have HX3 := Lib.hid (HX2.out.below hb3)
  have HY3 := Lib.hid (HY2.out.below hb3)
  have HZ3 := Lib.hid (HZ2.out.below hb3)
  clear hb3 HB2 HX2 HY2 HZ2
  obtain ⟨z0, z1, z2, z3, z4, z5⟩ := HZ3.out.cells
  have f0 := HZ3.out.frozen 0
  have f1 := HZ3.out.frozen 1
  have f2 := HZ3.out.frozen 2
  have f3 := HZ3.out.frozen 3
  have f4 := HZ3.out.frozen 4
  have hX4 := HX3.out.far5 (G := K0 + 1 + 1) (by omega) (.int .u8 a9) (.int .u8 d') (.int .u8 d9) (.bool p9) (.slice A9 E3 c9)
  have hY4 := HY3.out.far5 (G := K0 + 1 + 1) (by omega) (.int .u8 a9) (.int .u8 d') (.int .u8 d9) (.bool p9) (.slice A9 E3 c9)
  have hZ4 := HZ3.out.set5_ (a' := a9) (b' := d') (d' := d9) (p' := p9) (A' := A9) (n' := E3) (c' := c9)
  have hB4 := below_set5 HB3.out (g := K0 + 1 + 1) (by have := hKw.out; omega) (.int .u8 a9) (.int .u8 d') (.int .u8 d9) (.bool p9) (.slice A9 E3 c9)
  have hX5 := Lib.hid hX4
  have hY5 := Lib.hid hY4
  have hZ5 := Lib.hid hZ4
  have HB4 := Lib.hid hB4
  clear hX4 hY4 hZ4 hB4 HX3 HY3 HZ3 HB3
  go_upto_region 3 with fail
  clear z0 z1 z2 z3 z4 z5 f0 f1 f2 f3 f4
  obtain ⟨W4, hW4⟩ : ∃ W, ((((w3.setCell ⟨K0 + 1 + 1, 0, none⟩ (Value.int .u8 a9)).setCell ⟨K0 + 1 + 1, 1, none⟩ (Value.int .u8 d')).setCell ⟨K0 + 1 + 1, 2, none⟩ (Value.int .u8 d9)).setCell ⟨K0 + 1 + 1, 3, none⟩ (Value.bool p9)).setCell ⟨K0 + 1 + 1, 4, none⟩ (Value.slice A9 E3 c9) = W := ⟨_, rfl⟩
  have hW4' : set5 w3 (K0 + 1 + 1) (.int .u8 a9) (.int .u8 d') (.int .u8 d9) (.bool p9) (.slice A9 E3 c9) = W4 := hW4
  rw [hW4'] at hX5 hY5 hZ5 HB4
  rw [hW4]
  clear hW4 hW4'
  -- three machines
  have CMx : ∀ wr, Below W4.heap.size W4 wr → Calls Try.prog 16 #[.agg #[.int .u8 a, .int .u8 b, .int .u8 d, .bool p, .slice A E1 c]] wr fun e w' => ∃ (R : Option Addr) (c : Nat), e = .returned (.agg #[.int .i64 i, .int .i64 o, .slice R n c]) ∧ (∃ bs vs, Bld w' bs (.slice R n c) M.r vs) ∧ Below wr.heap.size wr w' := fun wr hb => by
    refine (CM _ (HR.out.below (below_next HB4.out hb))).mono ?_
    rintro e w' ⟨B, k9, vs, rfl, hB, hbl⟩
    exact ⟨B, k9, rfl, ⟨_, vs, hB.out⟩, hbl⟩
  have CNx : ∀ wr, Below W4.heap.size W4 wr → Calls Try.prog 16 #[.agg #[.int .u8 a', .int .u8 d, .int .u8 d', .bool p', .slice A' E2 c']] wr fun e w' => ∃ (R : Option Addr) (c : Nat), e = .returned (.agg #[.int .i64 o, .int .i64 o', .slice R n' c]) ∧ (∃ bs vs, Bld w' bs (.slice R n' c) N.r vs) ∧ Below wr.heap.size wr w' := fun wr hb => by
    refine (CN _ (HR'.out.below (below_next HB4.out hb))).mono ?_
    rintro e w' ⟨B, k9, vs, rfl, hB, hbl⟩
    exact ⟨B, k9, rfl, ⟨_, vs, hB.out⟩, hbl⟩
  have CQx : ∀ wr, Below W4.heap.size W4 wr → Calls Try.prog 16 #[.agg #[.int .u8 a9, .int .u8 d', .int .u8 d9, .bool p9, .slice A9 E3 c9]] wr fun e w' => ∃ (R : Option Addr) (c : Nat), e = .returned (.agg #[.int .i64 o', .int .i64 o9, .slice R n9 c]) ∧ (∃ bs vs, Bld w' bs (.slice R n9 c) Q.r vs) ∧ Below wr.heap.size wr w' := fun wr hb => by
    refine (CQ _ (HR9.out.below (below_next HB4.out hb))).mono ?_
    rintro e w' ⟨B, k9, vs, rfl, hB, hbl⟩
    exact ⟨B, k9, rfl, ⟨_, vs, hB.out⟩, hbl⟩
  clear CM CN CQ
  go_cut [7, 8, 9] from 33 to 159 (fun u v x wx => ∃ (G H T : Nat) (R S U : Option Addr) (c1 c2 c3 : Nat), u = .pointer (some ⟨G, 0, none⟩) ∧ v = .pointer (some ⟨H, 0, none⟩) ∧ x = .pointer (some ⟨T, 0, none⟩) ∧ Hid (Th3 W4 M.r N.r Q.r G H T R S U n n' n9 c1 c2 c3 i o o o' o' o9 wx))
  case first =>
    refine region_boxes (n := 160) (W := W4) [some 33, some 34, some 35, some 36, some 37, some 38, some 39, some 7, some 8, some 9, none, none, none] [.hop (kx (.agg #[.int .u8 a, .int .u8 b, .int .u8 d, .bool p, .slice A E1 c])), .hop (kM i o n M.r), .hop (kx (.agg #[.int .u8 a', .int .u8 d, .int .u8 d', .bool p', .slice A' E2 c'])), .hop (kM o o' n' N.r), .hop (kx (.pointer (some ⟨K0 + 1 + 1, 0, none⟩))), .hop (kx (.agg #[.int .u8 a9, .int .u8 d', .int .u8 d9, .bool p9, .slice A9 E3 c9])), .hop (kM o' o9 n9 Q.r), .new (.cells #[.int .i64 0, .int .i64 0, .slice none 0 0] 24) (fun g => .pointer (some ⟨g, 0, none⟩)) (some 10), .new (.cells #[.int .i64 0, .int .i64 0, .slice none 0 0] 24) (fun g => .pointer (some ⟨g, 0, none⟩)) (some 11), .new (.cells #[.int .i64 0, .int .i64 0, .slice none 0 0] 24) (fun g => .pointer (some ⟨g, 0, none⟩)) (some 12), .st 7 1 24 aggM, .st 8 3 24 aggM, .st 9 6 24 aggM] (by rfl) (by kernel_rfl) (by kernel_rfl) (by kernel_rfl) rfl (fun _ => rfl) rfl ?hops (fun f adr wx hbx hh hnw hinj hst => ?ends)
    case hops =>
      refine ⟨bopX_load rfl rfl rfl rfl rfl hX5.out rfl, ?_⟩
      refine ⟨bopM_of (j := 0) rfl rfl rfl rfl rfl rfl CMx rfl, ?_⟩
      refine ⟨bopX_load rfl rfl rfl rfl rfl hY5.out rfl, ?_⟩
      refine ⟨bopM_of (j := 2) rfl rfl rfl rfl rfl rfl CNx rfl, ?_⟩
      refine ⟨bopZ_field rfl rfl rfl rfl rfl rfl, ?_⟩
      refine ⟨bopZ_load (j := 4) rfl rfl rfl rfl rfl rfl hZ5.out rfl, ?_⟩
      refine ⟨bopM_of (j := 5) rfl rfl rfl rfl rfl rfl CQx rfl, ?_⟩
      refine ⟨bopM_alloc rfl rfl rfl rfl, ?_⟩
      refine ⟨bopM_alloc rfl rfl rfl rfl, ?_⟩
      refine ⟨bopM_alloc rfl rfl rfl rfl, ?_⟩
      refine ⟨bopM_store (j := 7) (k := 1) rfl rfl rfl rfl rfl rfl rfl rfl rfl rfl, ?_⟩
      refine ⟨bopM_store (j := 8) (k := 3) rfl rfl rfl rfl rfl rfl rfl rfl rfl rfl, ?_⟩
      refine ⟨bopM_store (j := 9) (k := 6) rfl rfl rfl rfl rfl rfl rfl rfl rfl rfl, ?_⟩
      trivial
    case ends =>
      obtain ⟨R, c1, e1', hra⟩ := hh 1 _ rfl
      obtain ⟨S, c2, e3', hrb⟩ := hh 3 _ rfl
      obtain ⟨U, c3, e6', hrc⟩ := hh 6 _ rfl
      have e7 := (hnw 7 _ _ _ rfl).1
      have e8 := (hnw 8 _ _ _ rfl).1
      have e9 := (hnw 9 _ _ _ rfl).1
      have b7 := hst 10 7 1 _ _ rfl
      have b8 := hst 11 8 3 _ _ rfl
      have b9' := hst 12 9 6 _ _ rfl
      rw [e1'] at b7
      rw [e3'] at b8
      rw [e6'] at b9'
      have hTh : Th3 W4 M.r N.r Q.r (adr 7) (adr 8) (adr 9) R S U n n' n9 c1 c2 c3 i o o o' o' o9 wx := ⟨hbx, b7, b8, b9', hra, hrb, hrc⟩
      clear hh hnw hinj hst b7 b8 b9' hra hrb hrc hbx e1' e3' e6'
      simp only [putN]
      rw [e7, e8, e9]
      simp [Act.put]
      go_wp2_with fail
      go_meet
      exact ⟨adr 7, adr 8, adr 9, R, S, U, c1, c2, c3, rfl, rfl, rfl, hTh⟩
  case rest =>
  obtain ⟨G, H, U9, R, S, U, c1, c2, c3, rfl, rfl, rfl, hS⟩ := hcut
  obtain ⟨w5, hw5⟩ : ∃ x, x = wc := ⟨_, rfl⟩
  rw [← hw5] at hS ⊢
  clear hw5
  have s1 : MT w w5 [] := MT.next (MT.next MT.start HB4.out) hS.out.bel
  obtain ⟨_, _, hra⟩ := hS.out.ra
  obtain ⟨_, _, hrb⟩ := hS.out.rb
  obtain ⟨_, _, hrc⟩ := hS.out.rc
  have s2 := MK.putB (MK.putB (MK.putB (MK.putR (MK.putR (MK.putR s1 hra.two) hrb.two) hrc.two) hS.out.bg) hS.out.bh) hS.out.bt
  -- 0: U9, 1: H, 2: G, 3: Q.r, 4: N.r, 5: M.r
  have hz := hZ5.out.below hS.out.bel
  have z5 := hz.cells.2.2.2.2.2
  clear s1 hra hrb hrc hS hX5 hY5 hZ5 HB4 CMx CNx CQx HR HR' HR9 hz
  obtain ⟨m0, m1, m2⟩ := BxM.cells (MK.get s2 2 rfl)
  go_wp2_with fail
  clear m0 m1 m2 z5
  refine (HCW.out _ (HR8.out.below s2.2.1)).mono ?_
  rintro e w6 ⟨UB, ku, qu, rfl, hku0, h12, hru, hkq, hb6⟩
  have s3 := MK.putL (MT.next s2 hb6) hru
  have hku : Hid (Y.length = ku) := hku0
  clear s2 hb6 hru HCW HR8 hku0
  -- 0: the word, 1: U9, 2: H, 3: G, 4: Q.r, 5: N.r, 6: M.r
  have hab : Hid (M.o = N.i) := by show _ = _; rw [hmo.out, hmi'.out]
  have hbc : Hid (N.o = Q.i) := by show _ = _; rw [hmo'.out, hmi9.out]
  obtain ⟨J, hJ⟩ : ∃ J, Mc.ser M N = J := ⟨_, rfl⟩
  have hJm : Mc.jm (i : Int) o' n n' (Mc.serF M N) = J := by rw [← hJ, ← hmi.out, ← hmo'.out, ← hlen.out, ← hlen'.out]; rfl
  have HJS : Hid (Mc.JS (i : Int) o' n n' (Mc.serF M N)) := by
    have h := Mc.ser_js V.out V'.out hab.out
    rw [hmi.out, hmo'.out, hlen.out, hlen'.out] at h
    exact h
  have VJ : Hid (Mc.Vx J) := by show Mc.Vx _; rw [← hJ]; exact Mc.ser_vx V.out V'.out hab.out
  have HJM := Lib.hid hJm
  have HJ := Lib.hid hJ
  have HJI : Hid (J.i = i) := by show _ = _; rw [← hJm]; rfl
  have HJO : Hid (J.o = o') := by show _ = _; rw [← hJm]; rfl
  have HJL : Hid (J.r.length = n * n') := by show _ = _; rw [← hJm]; exact Mc.jm_len
  obtain ⟨K, hK⟩ : ∃ K, (Mc.ord J).length = K := ⟨_, rfl⟩
  have hK1 : 1 ≤ K := by rw [← hK]; exact Mc.vx_pos VJ.out
  have hK36 : K ≤ 36 := by
    have h1 := (Mc.vx_bf VJ.out).lenQ (Mc.vx_vq VJ.out)
    rw [← Mc.ord_lenX, hK, HJL.out] at h1
    exact Nat.le_trans h1 (Nat.mul_le_mul hn6 hn6')
  have HK := Lib.hid hK
  obtain ⟨RR, hRR⟩ : ∃ RR, (Mc.prt J (Mc.ord J)).r = RR := ⟨_, rfl⟩
  have HRR := Lib.hid hRR
  have HRL : Hid (RR.length = K) := by show _ = _; rw [← hRR, Mc.prt_len, hK]
  have VP := Lib.hid (Mc.vx_can VJ.out (by rw [HJI.out]; omega) (by rw [HJO.out]; omega) (by rw [hK]; omega)).1
  have HRW : Hid (∀ row ∈ RR, row.length ≤ 1000000) := fun row hr => by
    rw [← hRR] at hr
    have h1 := VP.out.len row hr
    have h2 := VP.out.i1
    omega
  clear hJ hJm hK hRR HJL
  obtain ⟨J2, hJ⟩ : ∃ J, Mc.ser N Q = J := ⟨_, rfl⟩
  have hJm : Mc.jm (o : Int) o9 n' n9 (Mc.serF N Q) = J2 := by rw [← hJ, ← hmi'.out, ← hmo9.out, ← hlen'.out, ← hlen9.out]; rfl
  have HJS2 : Hid (Mc.JS (o : Int) o9 n' n9 (Mc.serF N Q)) := by
    have h := Mc.ser_js V'.out V9.out hbc.out
    rw [hmi'.out, hmo9.out, hlen'.out, hlen9.out] at h
    exact h
  have VJ2 : Hid (Mc.Vx J2) := by show Mc.Vx _; rw [← hJ]; exact Mc.ser_vx V'.out V9.out hbc.out
  have HJM2 := Lib.hid hJm
  have HJ2 := Lib.hid hJ
  have HJI2 : Hid (J2.i = o) := by show _ = _; rw [← hJm]; rfl
  have HJO2 : Hid (J2.o = o9) := by show _ = _; rw [← hJm]; rfl
  have HJL : Hid (J2.r.length = n' * n9) := by show _ = _; rw [← hJm]; exact Mc.jm_len
  obtain ⟨K2, hK⟩ : ∃ K, (Mc.ord J2).length = K := ⟨_, rfl⟩
  have hK21 : 1 ≤ K2 := by rw [← hK]; exact Mc.vx_pos VJ2.out
  have hK236 : K2 ≤ 36 := by
    have h1 := (Mc.vx_bf VJ2.out).lenQ (Mc.vx_vq VJ2.out)
    rw [← Mc.ord_lenX, hK, HJL.out] at h1
    exact Nat.le_trans h1 (Nat.mul_le_mul hn6' hn69)
  have HK2 := Lib.hid hK
  obtain ⟨RR2, hRR⟩ : ∃ RR, (Mc.prt J2 (Mc.ord J2)).r = RR := ⟨_, rfl⟩
  have HRR2 := Lib.hid hRR
  have HRL2 : Hid (RR2.length = K2) := by show _ = _; rw [← hRR, Mc.prt_len, hK]
  have VP2 := Lib.hid (Mc.vx_can VJ2.out (by rw [HJI2.out]; omega) (by rw [HJO2.out]; omega) (by rw [hK]; omega)).1
  have HRW2 : Hid (∀ row ∈ RR2, row.length ≤ 1000000) := fun row hr => by
    rw [← hRR] at hr
    have h1 := VP2.out.len row hr
    have h2 := VP2.out.i1
    omega
  clear hJ hJm hK hRR HJL
  have CU : Hid (∀ wr, RdR wr R M.r → RdR wr S N.r → Calls Try.prog 18 #[.agg #[.int .i64 i, .int .i64 o, .slice R n c1], .agg #[.int .i64 o, .int .i64 o', .slice S n' c2]] wr (JxP wr i o' K RR)) := fun wr hR hS => by
    have v1 := V.out.r1
    have v2 := V'.out.r1
    have h := series_any M N R S n c1 n' c2 wr hR hlen.out (by omega) (fun row hr => by have := V.out.len row hr; have := V.out.i1; omega) hS hlen'.out (by omega) (fun row hr => by have := V'.out.len row hr; have := V'.out.i1; omega)
    rw [hmi.out, hmo.out, hmi'.out, hmo'.out, HJ.out] at h
    refine h.mono fun e w' h => ?_
    have hs : sech M N = 0 := by unfold sech; rw [if_neg (by rw [jch_of V.out V'.out]; simp), if_neg (by simp [hab.out])]
    have h3 := h.ok (k := K) (rs := RR) hs HRR.out HRL.out (by omega) HRW.out
    rwa [HJI.out, HJO.out] at h3
  have CU2 : Hid (∀ wr, RdR wr S N.r → RdR wr U Q.r → Calls Try.prog 18 #[.agg #[.int .i64 o, .int .i64 o', .slice S n' c2], .agg #[.int .i64 o', .int .i64 o9, .slice U n9 c3]] wr (JxP wr o o9 K2 RR2)) := fun wr hR hS => by
    have v1 := V'.out.r1
    have v2 := V9.out.r1
    have h := series_any N Q S U n' c2 n9 c3 wr hR hlen'.out (by omega) (fun row hr => by have := V'.out.len row hr; have := V'.out.i1; omega) hS hlen9.out (by omega) (fun row hr => by have := V9.out.len row hr; have := V9.out.i1; omega)
    rw [hmi'.out, hmo'.out, hmi9.out, hmo9.out, HJ2.out] at h
    refine h.mono fun e w' h => ?_
    have hs : sech N Q = 0 := by unfold sech; rw [if_neg (by rw [jch_of V'.out V9.out]; simp), if_neg (by simp [hbc.out])]
    have h3 := h.ok (k := K2) (rs := RR2) hs HRR2.out HRL2.out (by omega) HRW2.out
    rwa [HJI2.out, HJO2.out] at h3
  obtain ⟨m0, m1, m2⟩ := BxM.cells (MK.get s3 3 rfl)
  obtain ⟨q0, q1, q2⟩ := BxM.cells (MK.get s3 2 rfl)
  go_wp2_with fail
  clear m0 m1 m2 q0 q1 q2
  refine (CU.out _ (MK.get s3 6 rfl) (MK.get s3 5 rfl)).mono ?_
  rintro e w7 ⟨P, rfl, hx, hb7⟩
  have s4 := MK.putXJ (MT.next s3 hb7) hx
  clear s3 hb7 hx CU
  have s5 := MK.putB (g := w7.heap.size) (MT.alloc s4 (.cells #[.int .i64 i, .int .i64 o', .slice (some ⟨P, 0, none⟩) K K] 24)) (heap_alloc_new w7 _)
  clear s4
  go_upto_region 6 with fail
  obtain ⟨w8, hw⟩ : ∃ q, w7.alloc (.cells #[.int .i64 i, .int .i64 o', .slice (some ⟨P, 0, none⟩) K K] 24) = q := ⟨_, rfl⟩
  obtain ⟨T, hT⟩ : ∃ T, w7.heap.size = T := ⟨_, rfl⟩
  rw [hw, hT] at s5
  try rw [hw]
  try rw [hT]
  clear hw hT
  -- 0: T, 1: rows of P, 2: the word, 3: U9, 4: H, 5: G, 6: Q.r, 7: N.r, 8: M.r
  have S5 := Lib.hid s5
  have HS : Hid (∀ W : World, Below w8.heap.size w8 W → ((W.cell? ⟨T, 0, none⟩ = some (.int .i64 i) ∧ W.cell? ⟨T, 1, none⟩ = some (.int .i64 o') ∧ W.cell? ⟨T, 2, none⟩ = some (.slice (some ⟨P, 0, none⟩) K K)) ∧ (W.cell? ⟨G, 0, none⟩ = some (.int .i64 i) ∧ W.cell? ⟨G, 1, none⟩ = some (.int .i64 o) ∧ W.cell? ⟨G, 2, none⟩ = some (.slice R n c1)) ∧ (W.cell? ⟨H, 0, none⟩ = some (.int .i64 o) ∧ W.cell? ⟨H, 1, none⟩ = some (.int .i64 o') ∧ W.cell? ⟨H, 2, none⟩ = some (.slice S n' c2)) ∧ W.cell? ⟨U9, 0, none⟩ = some (.int .i64 o') ∧ W.cell? ⟨U9, 1, none⟩ = some (.int .i64 o9) ∧ W.cell? ⟨U9, 2, none⟩ = some (.slice U n9 c3))) := fun W hb => by
    have s6 := MT.next S5.out hb
    obtain ⟨x0, x1, x2⟩ := BxM.cells (MK.get s6 0 rfl)
    obtain ⟨y0, y1, y2⟩ := BxM.cells (MK.get s6 5 rfl)
    obtain ⟨z0, z1, z2⟩ := BxM.cells (MK.get s6 4 rfl)
    obtain ⟨v0, v1, v2⟩ := BxM.cells (MK.get s6 3 rfl)
    exact ⟨⟨x0, x1, x2⟩, ⟨y0, y1, y2⟩, ⟨z0, z1, z2⟩, v0, v1, v2⟩
  clear s5
  have CST : Hid (∀ wr, Below w8.heap.size w8 wr → ∀ s t k : Nat, s < n → t < n' → k < i → Calls Try.prog 59 #[.agg #[.int .i64 i, .int .i64 o, .slice R n c1], .agg #[.int .i64 o, .int .i64 o', .slice S n' c2], .int .i64 0, .agg #[.int .i64 s, .int .i64 t], .int .i64 k] wr (PzP wr (stp (Mc.serF M N s t k)))) := fun wr hb s t k hs ht hk => by
    have s6 := MT.next S5.out hb
    have h := rstep_ser M N V.out V'.out hab.out R S n n' c1 c2 s t k wr (MK.get s6 8 rfl) (MK.get s6 7 rfl) hlen.out hlen'.out hs ht (by rw [hmi.out]; omega)
    rwa [hmi.out, hmo.out, hmi'.out, hmo'.out] at h
  have CJ : Hid (∀ wr, Below w8.heap.size w8 wr → Calls Try.prog 19 #[.agg #[.int .i64 i, .int .i64 o', .slice (some ⟨P, 0, none⟩) K K], .agg #[.int .i64 i, .int .i64 o, .slice R n c1], .agg #[.int .i64 o, .int .i64 o', .slice S n' c2], .int .i64 0] wr fun e w' => e = .returned (.int .i64 1) ∧ Below wr.heap.size wr w') := fun wr hb =>
    rjoint_ser (Mc.serF M N) i n n' K o o o' o' R S (some ⟨P, 0, none⟩) c1 c2 K wr hi1 (by omega) (by omega) (by omega) hn1 (by omega) hn1' (by omega) HJS.out rfl
      (fun wr' hb' s t k hs ht hk => CST.out wr' (below_next hb hb') s t k hs ht hk)
      (by rw [HJM.out]; exact HK.out) (by omega) (by rw [HJM.out, HRR.out]; exact Ex.rd (MK.get (MT.next S5.out hb) 1 rfl))
  obtain ⟨⟨t0, t1, t2⟩, ⟨g0, g1, g2⟩, ⟨h0, h1, h2⟩, u0, u1, u2⟩ := HS.out _ (Below.refl _ _)
  have hkz : ((K : Int) == 0) = false := by rw [beq_eq_false_iff_ne]; omega
  go_wp2_with fail
  refine (CJ.out _ (Below.refl _ _)).mono ?_
  rintro e w9 ⟨rfl, hb9⟩
  have HB9 := Lib.hid hb9
  clear hb9 t0 t1 t2 g0 g1 g2 h0 h1 h2 u0 u1 u2 CJ hkz
  obtain ⟨⟨t0, t1, t2⟩, ⟨g0, g1, g2⟩, ⟨h0, h1, h2⟩, u0, u1, u2⟩ := HS.out _ HB9.out
  go_wp2_with fail
  refine (clipped_yes i o' RR P K _ (MK.get (MT.next S5.out HB9.out) 1 rfl)).mono ?_
  rintro e w10 ⟨rfl, hb10⟩
  have HB10 := Lib.hid (below_next HB9.out hb10)
  clear hb10 HB9 t0 t1 t2 g0 g1 g2 h0 h1 h2 u0 u1 u2
  obtain ⟨⟨t0, t1, t2⟩, ⟨g0, g1, g2⟩, ⟨h0, h1, h2⟩, u0, u1, u2⟩ := HS.out _ HB10.out
  -- the first response
  go_wp2_with fail
  refine (rrun_cap M i o R n c1 _ 0 UB ku qu Y V.out hmi.out hmo.out hlen.out hku.out (MK.get (MT.next S5.out HB10.out) 8 rfl) (MK.get (MT.next S5.out HB10.out) 2 rfl) (Or.inr ⟨by omega, by rw [hlen.out]; omega⟩) HW.out (by omega)).mono ?_
  rintro e w11 ⟨B7, e7, rfl, hr7, hke7, hb11⟩
  have HB11 := Lib.hid (below_next HB10.out hb11)
  have R7 := Lib.hid hr7
  clear hb11 HB10 t0 t1 t2 g0 g1 g2 h0 h1 h2 u0 u1 u2 hr7
  obtain ⟨F, hF⟩ : ∃ F, Mc.run M 0 Y = F := ⟨_, rfl⟩
  have HFF := Lib.hid hF
  have HFL : Hid (F.length = ku) := by show _ = _; rw [← hF, Mc.run_len, hku.out]
  rw [hF] at R7
  clear hF
  go_upto_block 0 with fail
  go_cut [14] from 74 to 86 (fun v wx => ∃ k : Nat, k ≤ ku ∧ v = .int .i64 k ∧ Hid (FPj F k ∧ (k = F.length ∨ ∃ x, F[k]? = some x ∧ x < 0)) ∧ Hid (Below w11.heap.size w11 wx))
  case first =>
    go_wp2_with fail
    go_loopw [14] (fun v wr => ∃ k : Nat, k ≤ ku ∧ v = .int .i64 k ∧ Hid (FPj F k) ∧ Hid (Below w11.heap.size w11 wr)) (fun v _ => ku - (intOf v).toNat)
    case atStart => exact ⟨0, Nat.zero_le _, rfl, FPj.zero F, Below.refl _ _⟩
    case round =>
      obtain ⟨k, hk, rfl, hp, hb⟩ := hrel
      by_cases hlt : k < ku
      · have hlti : (k : Int) < ku := by omega
        obtain ⟨b7, o7, x, rfl, _, x0, hx⟩ := rd_nth (R7.out.below hb.out) (k := k) (by rw [HFL.out]; exact hlt)
        have HX := Lib.hid hx
        clear hx
        by_cases hx0 : 0 ≤ x
        · have hx0d : decide (0 ≤ x) = true := decide_eq_true hx0
          have hN : Hid (FPj F (k + 1)) := hp.out.next HX.out hx0
          clear hp hx0
          go_wp2_with fail
          clear x0
          go_roundw
          case rel => exact ⟨k + 1, by omega, by go_num, hN, hb⟩
          case measure => simp [intOf]; omega
        · have hx0d : decide (0 ≤ x) = false := decide_eq_false hx0
          have hE : Hid (FPj F k ∧ (k = F.length ∨ ∃ x, F[k]? = some x ∧ x < 0)) := ⟨hp.out, Or.inr ⟨x, HX.out, by omega⟩⟩
          clear hp hx0
          go_wp2_with fail
          clear x0
          go_meet
          exact ⟨k, hk, rfl, hE, hb⟩
      · have hlti : ¬ (k : Int) < ku := by omega
        have hE : Hid (FPj F k ∧ (k = F.length ∨ ∃ x, F[k]? = some x ∧ x < 0)) := ⟨hp.out, Or.inl (by rw [HFL.out]; omega)⟩
        clear hp
        go_wp2_with fail
        go_meet
        exact ⟨k, hk, rfl, hE, hb⟩
  case rest =>
  obtain ⟨kn, hkn, rfl, hE, hbw⟩ := hcut
  obtain ⟨w12, hw12⟩ : ∃ x, x = wc := ⟨_, rfl⟩
  rw [← hw12] at hbw ⊢
  clear hw12
  have HB12 := Lib.hid (below_next HB11.out hbw.out)
  have R72 := Lib.hid (R7.out.below hbw.out)
  clear hbw HB11 R7
  have HFP : Hid (∀ x ∈ F, x < N.i) := fun x hx => by
    rw [← HFF.out] at hx
    rw [← hab.out]
    have h9 : ∀ (w : List Int) (s : Int), Mc.St M s → Mc.Wd M w → ∀ x ∈ Mc.run M s w, x < M.o := by
      intro w
      induction w with
      | nil => intro s _ _ x hx; cases hx
      | cons d w ih =>
        intro s hs hw x hx
        have hd := Mc.nx_st V.out hs (hw d (by simp))
        rcases List.mem_cons.1 (show x ∈ (Mc.nx M s d).2 :: Mc.run M (Mc.nx M s d).1 w from hx) with rfl | hx
        · exact hd.2.2.2.1
        · exact ih _ hd.1 (fun y hy => hw y (by simp [hy])) x hx
    exact h9 Y 0 (Mc.st0 V.out) HW.out x hx
  have HTW : Hid (Mc.Wd N (F.take kn)) := fun x hx => by
    obtain ⟨q, hq⟩ := List.mem_iff_getElem?.1 hx
    have hqn : q < kn := by
      have := (List.getElem?_eq_some_iff.1 hq).1
      rw [List.length_take] at this
      omega
    rw [List.getElem?_take_of_lt hqn] at hq
    obtain ⟨y, h1, h2⟩ := hE.out.1 q hqn
    rw [hq] at h1
    injection h1 with h1
    subst h1
    exact ⟨h2, HFP.out x (List.mem_of_getElem? hq)⟩
  have HTL : Hid ((F.take kn).length = kn) := by show _ = _; rw [List.length_take, HFL.out]; omega
  have CR2 : Hid (∀ wr, Below w12.heap.size w12 wr → Calls Try.prog 21 #[.agg #[.int .i64 o, .int .i64 o', .slice S n' c2], .int .i64 0, .slice B7 kn e7] wr fun e w' => ∃ B q, e = .returned (.slice B kn q) ∧ Rd w' B (Mc.run N 0 (F.take kn)) ∧ Below wr.heap.size wr w') := fun wr hb =>
    rrun_atJ N o o' S n' c2 wr 0 B7 kn e7 (F.take kn) V'.out hmi'.out hmo'.out hlen'.out HTL.out (MK.get (MT.next S5.out (below_next HB12.out hb)) 7 rfl) (fun hp => by
      obtain ⟨b, off, h1, h2, h3⟩ := R72.out.below hb (by rw [HFL.out]; rw [HTL.out] at hp; omega)
      refine ⟨b, off, h1, h2, fun k hk => ?_⟩
      rw [HTL.out] at hk
      rw [h3 k (by rw [HFL.out]; omega), List.getElem?_take_of_lt hk]) (Or.inr ⟨by omega, by rw [hlen'.out]; omega⟩) HTW.out (by omega)
  have hcut12 := run_cutQ B7 ku e7 kn (by omega)
  have hkne : (kn : Int) ≤ e7 := by omega
  have HD : Hid (Below w12.heap.size w12 w12.drew) := (Below.refl _ _).drew
  have s0 := (HS.out _ HB12.out).2.2.1
  have sD := (HS.out _ (below_next HB12.out HD.out)).2.2.1
  obtain ⟨⟨t0, t1, t2⟩, ⟨g0, g1, g2⟩, ⟨h0, h1, h2⟩, u0, u1, u2⟩ := HS.out _ HB12.out
  go_upto_region 12 with fail
  go_region_held3 (fun W => (W.cell? ⟨H, 0, none⟩ = some (.int .i64 o) ∧ W.cell? ⟨H, 1, none⟩ = some (.int .i64 o') ∧ W.cell? ⟨H, 2, none⟩ = some (.slice S n' c2)))
    (first | (with_reducible exact s1) | (with_reducible exact s0) | (with_reducible exact sD) | go_keep)
    (first
      | (go_at_call 21
         (with_reducible refine (CR2.out _ HD.out).mono ?_)
         rintro e z1 ⟨B8, e8, rfl, hr8, hz1⟩
         have t9 := Lib.hid (below_next HD.out hz1)
         have s1 := (HS.out _ (below_next HB12.out t9.out)).2.2.1
         dsimp only)
      | fail)
  have R8 := Lib.hid hr8
  have HB13 := Lib.hid (below_next HB12.out t9.out)
  clear s0 s1 sD t0 t1 t2 g0 g1 g2 h0 h1 h2 u0 u1 u2 t9 hz1 hr8 HD CR2 hcut12 hkne HB12 R72
  obtain ⟨⟨t0, t1, t2⟩, ⟨g0, g1, g2⟩, ⟨h0, h1, h2⟩, u0, u1, u2⟩ := HS.out _ HB13.out
  -- the response of both
  have HWP : Hid (Mc.Wd (Mc.prt J (Mc.ord J)) Y) := Wd_ofQ HW.out (by show M.i = J.i; rw [hmi.out, HJI.out])
  go_wp2_with fail
  refine (rrun_atJ (Mc.prt J (Mc.ord J)) i o' (some ⟨P, 0, none⟩) K K _ 0 UB ku qu Y VP.out HJI.out HJO.out (by rw [HRR.out]; exact HRL.out) hku.out (by rw [HRR.out]; exact Ex.rd (MK.get (MT.next S5.out HB13.out) 1 rfl)) (MK.get (MT.next S5.out HB13.out) 2 rfl) (Or.inr ⟨by omega, by rw [HRR.out, HRL.out]; omega⟩) HWP.out (by omega)).mono ?_
  rintro e w14 ⟨B9, e9, rfl, hr9, hb14⟩
  have R82 := Lib.hid (R8.out.below hb14)
  have R9 := Lib.hid hr9
  have HB14 := Lib.hid (below_next HB13.out hb14)
  clear hb14 hr9 t0 t1 t2 g0 g1 g2 h0 h1 h2 u0 u1 u2 R8 HB13
  have HZR : Hid (∀ k : Nat, k < ku → (Mc.run (Mc.prt J (Mc.ord J)) 0 Y)[k]? = if k < kn then (Mc.run N 0 (F.take kn))[k]? else some (-1)) := fun k hk => by
    have h1 := Mc.vx_run VJ.out (w := Y) (Wd_ofQ HW.out (by rw [hmi.out, HJI.out]))
    have h2 := (Mc.ser_any V.out V'.out hab.out (u := Y) HW.out).2.2.1
    rw [HJ.out, HFF.out] at h2
    rw [h1, h2]
    exact Mc.sr_at N F 0 kn (by rw [HFL.out]; exact hkn) hE.out.1 hE.out.2 k (by rw [HFL.out]; exact hk)
  go_wp2_with fail
  go_loopw [17] (fun v wr => ∃ k : Nat, k ≤ ku ∧ v = .int .i64 k ∧ Hid (Below w14.heap.size w14 wr)) (fun v _ => ku - (intOf v).toNat)
  case atStart => exact ⟨0, Nat.zero_le _, rfl, Below.refl _ _⟩
  case round =>
    obtain ⟨k, hk, rfl, hb⟩ := hrel
    by_cases hlt : k < ku
    · have hlti : (k : Int) < ku := by omega
      obtain ⟨g9, o99, z, rfl, _, z0, hz⟩ := rd_nth (R9.out.below hb.out) (k := k) (by rw [Mc.run_len, hku.out]; exact hlt)
      rw [HZR.out k hlt] at hz
      by_cases hkk : k < kn
      · have hkki : (k : Int) < kn := by omega
        have hkkd : decide ((k : Int) < kn) = true := decide_eq_true hkki
        obtain ⟨g8, o8, y, rfl, _, y0, hy⟩ := rd_nth (R82.out.below hb.out) (k := k) (by rw [Mc.run_len, HTL.out]; exact hkk)
        rw [if_pos hkk, hy] at hz
        injection hz with hz
        subst hz
        have hzn : (y != y) = false := by simp
        clear hy
        go_wp2_with fail
        clear z0 y0
        go_roundw
        case rel => exact ⟨k + 1, by omega, by go_num, hb⟩
        case measure => simp [intOf]; omega
      · have hkki : ¬ (k : Int) < kn := by omega
        have hkkd : decide ((k : Int) < kn) = false := decide_eq_false hkki
        rw [if_neg hkk] at hz
        injection hz with hz
        subst hz
        go_wp2_with fail
        clear z0
        go_roundw
        case rel => exact ⟨k + 1, by omega, by go_num, hb⟩
        case measure => simp [intOf]; omega
    · have hlti : ¬ (k : Int) < ku := by omega
      have HB15 := Lib.hid (below_next HB14.out hb.out)
      clear hb HB14 HZR R9 R82 HTW HTL hE HWP HFP HFL HFF
      obtain ⟨w15, hw15⟩ : ∃ q, q = wr := ⟨_, rfl⟩
      rw [← hw15] at HB15 ⊢
      clear hw15
      -- three machines in series, both ways
      have hPi : Hid ((Mc.prt J (Mc.ord J)).i = i) := HJI.out
      have hPo : Hid ((Mc.prt J (Mc.ord J)).o = o') := HJO.out
      have hP2i : Hid ((Mc.prt J2 (Mc.ord J2)).i = o) := HJI2.out
      have hP2o : Hid ((Mc.prt J2 (Mc.ord J2)).o = o9) := HJO2.out
      have hPQ : Hid ((Mc.prt J (Mc.ord J)).o = Q.i) := by show _ = _; rw [hPo.out, hmi9.out]
      have hMP : Hid (M.o = (Mc.prt J2 (Mc.ord J2)).i) := by show _ = _; rw [hP2i.out, hmo.out]
      have hAS := Mc.ser_assoc V.out V'.out V9.out hab.out hbc.out (by rw [HJ.out]; exact VP.out) (by rw [HJ2.out]; exact VP2.out)
      rw [HJ.out, HJ2.out] at hAS
      obtain ⟨X1, hX1⟩ : ∃ X, Mc.prt J (Mc.ord J) = X := ⟨_, rfl⟩
      obtain ⟨X2, hX2⟩ : ∃ X, Mc.prt J2 (Mc.ord J2) = X := ⟨_, rfl⟩
      have HX1r : Hid (X1.r = RR) := by show _ = _; rw [← hX1]; exact HRR.out
      have HX2r : Hid (X2.r = RR2) := by show _ = _; rw [← hX2]; exact HRR2.out
      rw [hX1] at hPi hPo hPQ VP
      rw [hX2] at hP2i hP2o hMP VP2
      rw [show Mc.cn J = X1 from hX1, show Mc.cn J2 = X2 from hX2] at hAS
      clear hX1 hX2
      obtain ⟨L, hL⟩ : ∃ L, (Mc.ord (Mc.ser X1 Q)).length = L := ⟨_, rfl⟩
      have hL2 : (Mc.ord (Mc.ser M X2)).length = L := by rw [← hAS.2]; exact hL
      obtain ⟨RS, hRS⟩ : ∃ R, (Mc.cn (Mc.ser X1 Q)).r = R := ⟨_, rfl⟩
      have hRS2 : (Mc.cn (Mc.ser M X2)).r = RS := by rw [← hAS.1]; exact hRS
      have hVX := Mc.ser_vx VP.out V9.out hPQ.out
      obtain ⟨x, hx⟩ : ∃ x : Int, x = if 64 < L then 3 else 0 := ⟨_, rfl⟩
      have CS1 : Hid (∀ wr, RdR wr (some ⟨P, 0, none⟩) RR → RdR wr U Q.r → Calls Try.prog 18 #[.agg #[.int .i64 i, .int .i64 o', .slice (some ⟨P, 0, none⟩) K K], .agg #[.int .i64 o', .int .i64 o9, .slice U n9 c3]] wr fun e w' => ∃ (ri ro : Int) (P : Option Addr) (k k' : Nat), e = .returned (.tuple #[.agg #[.int .i64 ri, .int .i64 ro, .slice P k k'], .int .i64 x]) ∧ Hid ((x = 3 ∧ 64 < L ∧ ri = 0 ∧ ro = 0 ∧ P = none ∧ k = 0 ∧ k' = 0) ∨ (x = 0 ∧ L ≤ 64 ∧ ri = i ∧ ro = o9 ∧ k = L ∧ k' = L ∧ ∃ p, P = some ⟨p, 0, none⟩ ∧ Ex w' p L RS)) ∧ Below wr.heap.size wr w') := fun wr h1 h2 => by
        have h := ser_hand X1 Q (some ⟨P, 0, none⟩) U K K n9 c3 L x wr VP.out V9.out hPQ.out (by rw [HX1r.out]; exact h1) (by rw [HX1r.out]; exact HRL.out) h2 hlen9.out hL hx
        rwa [hPi.out, hPo.out, hmi9.out, hmo9.out, hRS] at h
      have CS3 : Hid (∀ wr (P2 : Nat), RdR wr R M.r → RdR wr (some ⟨P2, 0, none⟩) RR2 → Calls Try.prog 18 #[.agg #[.int .i64 i, .int .i64 o, .slice R n c1], .agg #[.int .i64 o, .int .i64 o9, .slice (some ⟨P2, 0, none⟩) K2 K2]] wr fun e w' => ∃ (ri ro : Int) (P : Option Addr) (k k' : Nat), e = .returned (.tuple #[.agg #[.int .i64 ri, .int .i64 ro, .slice P k k'], .int .i64 x]) ∧ Hid ((x = 3 ∧ 64 < L ∧ ri = 0 ∧ ro = 0 ∧ P = none ∧ k = 0 ∧ k' = 0) ∨ (x = 0 ∧ L ≤ 64 ∧ ri = i ∧ ro = o9 ∧ k = L ∧ k' = L ∧ ∃ p, P = some ⟨p, 0, none⟩ ∧ Ex w' p L RS)) ∧ Below wr.heap.size wr w') := fun wr P2 h1 h2 => by
        have h := ser_hand M X2 R (some ⟨P2, 0, none⟩) n c1 K2 K2 L x wr V.out VP2.out hMP.out h1 hlen.out (by rw [HX2r.out]; exact h2) (by rw [HX2r.out]; exact HRL2.out) hL2 hx
        rwa [hmi.out, hmo.out, hP2i.out, hP2o.out, hRS2] at h
      have HJS3 : Hid (Mc.JS (i : Int) o9 K n9 (Mc.serF X1 Q)) := by
        have h := Mc.ser_js VP.out V9.out hPQ.out
        rw [hPi.out, hmo9.out, HX1r.out, HRL.out, hlen9.out] at h
        exact h
      have HL3 : Hid ((Mc.ord (Mc.jm (i : Int) o9 K n9 (Mc.serF X1 Q))).length = L) := by
        show _ = _
        rw [← hL]
        congr 2
        show _ = Mc.jm _ _ _ _ _
        rw [hPi.out, hmo9.out, HX1r.out, HRL.out, hlen9.out]
      have HXL := Lib.hid hx
      clear hAS hL hL2 hRS hRS2 hVX hx VJ VJ2 HJM HJM2 HJ HJ2 HJS HJS2 CST
      obtain ⟨⟨t0, t1, t2⟩, ⟨g0, g1, g2⟩, ⟨h0, h1, h2⟩, u0, u1, u2⟩ := HS.out _ HB15.out
      have S15 := Lib.hid (MT.next S5.out HB15.out)
      clear S5
      go_wp2_with fail
      clear t0 t1 t2 g0 g1 g2 h0 h1 h2 u0 u1 u2
      refine (CS1.out _ (Ex.rd (MK.get S15.out 1 rfl)) (MK.get S15.out 6 rfl)).mono ?_
      rintro e w16 ⟨ri, ro, PA, k1, k2, rfl, hRE, hb16⟩
      have s16 := MT.putK (P := fun w => (x = 3 ∧ 64 < L ∧ ri = 0 ∧ ro = 0 ∧ PA = none ∧ k1 = 0 ∧ k2 = 0) ∨ (x = 0 ∧ L ≤ 64 ∧ ri = i ∧ ro = o9 ∧ k1 = L ∧ k2 = L ∧ ∃ p, PA = some ⟨p, 0, none⟩ ∧ Ex w p L RS)) (MT.next S15.out hb16) hRE.out (fun _ _ h hb => by
        rcases h with h | ⟨h1, h2, h3, h4, h5, h6, p, h7, h8⟩
        · exact Or.inl h
        · exact Or.inr ⟨h1, h2, h3, h4, h5, h6, p, h7, h8.below hb⟩)
      have s17 := MK.putB (g := w16.heap.size) (MT.alloc s16 (.cells #[.int .i64 ri, .int .i64 ro, .slice PA k1 k2] 24)) (heap_alloc_new w16 _)
      have HB16 := Lib.hid (below_next HB15.out (below_next hb16 ((Below.refl _ _).alloc (Nat.le_refl _) (.cells #[.int .i64 ri, .int .i64 ro, .slice PA k1 k2] 24))))
      clear s16 hRE hb16 CS1 S15 HB15
      go_upto_region 23 with fail
      obtain ⟨w17, hw⟩ : ∃ q, w16.alloc (.cells #[.int .i64 ri, .int .i64 ro, .slice PA k1 k2] 24) = q := ⟨_, rfl⟩
      obtain ⟨T1, hT⟩ : ∃ T, w16.heap.size = T := ⟨_, rfl⟩
      rw [hw] at HB16
      rw [hw, hT] at s17
      try rw [hw]
      try rw [hT]
      clear hw hT
      -- 0: T1, 1: what came back, 2: T, 3: rows of P, 4: the word, 5: U9, 6: H, 7: G, 8: Q.r, 9: N.r, 10: M.r
      obtain ⟨⟨t0, t1, t2⟩, ⟨g0, g1, g2⟩, ⟨h0, h1, h2⟩, u0, u1, u2⟩ := HS.out _ HB16.out
      go_wp2_with fail
      clear t0 t1 t2 g0 g1 g2 h0 h1 h2 u0 u1 u2
      refine (CU2.out _ (MK.get s17 9 rfl) (MK.get s17 8 rfl)).mono ?_
      rintro e w18 ⟨P2, rfl, hx2, hb18⟩
      have s18 := MK.putXJ (MT.next s17 hb18) hx2
      have s19 := MK.putB (g := w18.heap.size) (MT.alloc s18 (.cells #[.int .i64 o, .int .i64 o9, .slice (some ⟨P2, 0, none⟩) K2 K2] 24)) (heap_alloc_new w18 _)
      have HB18 := Lib.hid (below_next HB16.out (below_next hb18 ((Below.refl _ _).alloc (Nat.le_refl _) (.cells #[.int .i64 o, .int .i64 o9, .slice (some ⟨P2, 0, none⟩) K2 K2] 24))))
      clear s17 s18 hx2 hb18 CU2 HB16
      go_upto_region 24 with fail
      obtain ⟨w19, hw⟩ : ∃ q, w18.alloc (.cells #[.int .i64 o, .int .i64 o9, .slice (some ⟨P2, 0, none⟩) K2 K2] 24) = q := ⟨_, rfl⟩
      obtain ⟨T2, hT⟩ : ∃ T, w18.heap.size = T := ⟨_, rfl⟩
      rw [hw] at HB18
      rw [hw, hT] at s19
      try rw [hw]
      try rw [hT]
      clear hw hT
      -- 0: T2, 1: rows of P2, 2: T1, 3: what came back, 4: T, .., 12: M.r
      obtain ⟨⟨t0, t1, t2⟩, ⟨g0, g1, g2⟩, ⟨h0, h1, h2⟩, u0, u1, u2⟩ := HS.out _ HB18.out
      obtain ⟨m0, m1, m2⟩ := BxM.cells (MK.get s19 0 rfl)
      go_wp2_with fail
      clear t0 t1 t2 g0 g1 g2 h0 h1 h2 u0 u1 u2 m0 m1 m2
      refine (CS3.out _ P2 (MK.get s19 12 rfl) (Ex.rd (MK.get s19 1 rfl))).mono ?_
      rintro e w20 ⟨ri2, ro2, PB, k3, k4, rfl, hRE, hb20⟩
      have s20 := MT.putK (P := fun w => (x = 3 ∧ 64 < L ∧ ri2 = 0 ∧ ro2 = 0 ∧ PB = none ∧ k3 = 0 ∧ k4 = 0) ∨ (x = 0 ∧ L ≤ 64 ∧ ri2 = i ∧ ro2 = o9 ∧ k3 = L ∧ k4 = L ∧ ∃ p, PB = some ⟨p, 0, none⟩ ∧ Ex w p L RS)) (MT.next s19 hb20) hRE.out (fun _ _ h hb => by
        rcases h with h | ⟨h1, h2, h3, h4, h5, h6, p, h7, h8⟩
        · exact Or.inl h
        · exact Or.inr ⟨h1, h2, h3, h4, h5, h6, p, h7, h8.below hb⟩)
      have s21 := MK.putB (g := w20.heap.size) (MT.alloc s20 (.cells #[.int .i64 ri2, .int .i64 ro2, .slice PB k3 k4] 24)) (heap_alloc_new w20 _)
      have HB20 := Lib.hid (below_next HB18.out (below_next hb20 ((Below.refl _ _).alloc (Nat.le_refl _) (.cells #[.int .i64 ri2, .int .i64 ro2, .slice PB k3 k4] 24))))
      clear s19 s20 hRE hb20 CS3 HB18
      go_upto_region 25 with fail
      obtain ⟨w21, hw⟩ : ∃ q, w20.alloc (.cells #[.int .i64 ri2, .int .i64 ro2, .slice PB k3 k4] 24) = q := ⟨_, rfl⟩
      obtain ⟨T3, hT⟩ : ∃ T, w20.heap.size = T := ⟨_, rfl⟩
      rw [hw] at HB20
      rw [hw, hT] at s21
      try rw [hw]
      try rw [hT]
      clear hw hT
      -- 0: T3, 1: what came back, 2: T2, 3: rows of P2, 4: T1, 5: what came back, 6: T, 7: rows of P, 8: the word, 9: U9, 10: H, 11: G, 12: Q.r, 13: N.r, 14: M.r
      have S21 := Lib.hid s21
      clear s21
      have hxx : (x != x) = false := by simp
      by_cases h64 : 64 < L
      · have hx3 : x = 3 := by rw [HXL.out, if_pos h64]
        have hA := MK.get S21.out 5 rfl
        obtain ⟨_, _, rfl, rfl, rfl, rfl, rfl⟩ : x = 3 ∧ 64 < L ∧ ri = 0 ∧ ro = 0 ∧ PA = none ∧ k1 = 0 ∧ k2 = 0 := by
          rcases hA with h | ⟨_, h, _⟩
          · exact h
          · omega
        clear hA HXL
        subst hx3
        obtain ⟨m0, m1, m2⟩ := BxM.cells (MK.get S21.out 4 rfl)
        go_wp2_with fail
        clear m0 m1 m2
        refine (nothing_yes 3 _).mono ?_
        rintro e w22 ⟨rfl, hb22⟩
        have HB22 := Lib.hid (below_next HB20.out hb22)
        have S22 := Lib.hid (MT.next S21.out hb22)
        clear hb22 S21 HB20
        have CRE := rreached_any (Mc.serF X1 Q) i K n9 0 o' o' o9 o9 (some ⟨P, 0, none⟩) U K c3 w22 hi1 (by omega) (by omega) hK1 (by omega) hn19 (by omega) HJS3.out (fun wr hb s t k hs ht hk => by
          have s6 := MT.next S22.out hb
          have h := rstep_ser X1 Q VP.out V9.out hPQ.out (some ⟨P, 0, none⟩) U K n9 K c3 s t k wr (by rw [HX1r.out]; exact Ex.rd (MK.get s6 7 rfl)) (MK.get s6 12 rfl) (by rw [HX1r.out]; exact HRL.out) hlen9.out hs ht (by rw [hPi.out]; omega)
          rwa [hPi.out, hPo.out, hmi9.out, hmo9.out] at h)
        rw [HL3.out] at CRE
        have HCRE := Lib.hid CRE
        clear CRE
        have h64i : (64 : Int) < (L : Nat) := by omega
        have h64d : decide ((64 : Int) < (L : Nat)) = true := decide_eq_true h64i
        obtain ⟨⟨t0, t1, t2⟩, ⟨g0, g1, g2⟩, ⟨h0, h1, h2⟩, u0, u1, u2⟩ := HS.out _ HB22.out
        go_wp2_with fail
        clear t0 t1 t2 g0 g1 g2 h0 h1 h2 u0 u1 u2
        refine HCRE.out.mono ?_
        rintro e w23 ⟨rfl, hb23⟩
        have s23 := MT.next S22.out hb23
        clear hb23 HCRE
        go_wp2_with fail
        refine (jlives_walk _).mono ?_
        rintro e w24 ⟨rfl, hb24⟩
        have hfin := Lib.hid (MT.next s23 hb24).2.1
        clear s23 hb24
        go_wp2
        go_ret
        exact ⟨rfl, hfin.out⟩
      · have hx3 : x = 0 := by rw [HXL.out, if_neg h64]
        have hA := MK.get S21.out 5 rfl
        have hB := MK.get S21.out 1 rfl
        obtain ⟨pA, rfl, rfl, rfl, h5, h6, hEA⟩ : ∃ p, PA = some ⟨p, 0, none⟩ ∧ ri = i ∧ ro = o9 ∧ L = k1 ∧ L = k2 ∧ Ex w21 p L RS := by
          rcases hA with ⟨_, h, _⟩ | ⟨_, _, h3, h4, h5, h6, p, h7, h8⟩
          · exact absurd h h64
          · exact ⟨p, h7, h3, h4, h5.symm, h6.symm, h8⟩
        subst h5 h6
        obtain ⟨pB, rfl, rfl, rfl, h5, h6, hEB⟩ : ∃ p, PB = some ⟨p, 0, none⟩ ∧ ri2 = i ∧ ro2 = o9 ∧ L = k3 ∧ L = k4 ∧ Ex w21 p L RS := by
          rcases hB with ⟨_, h, _⟩ | ⟨_, _, h3, h4, h5, h6, p, h7, h8⟩
          · exact absurd h h64
          · exact ⟨p, h7, h3, h4, h5.symm, h6.symm, h8⟩
        subst h5 h6
        clear hA hB HXL
        subst hx3
        obtain ⟨m0, m1, m2⟩ := BxM.cells (MK.get S21.out 4 rfl)
        obtain ⟨q0, q1, q2⟩ := BxM.cells (MK.get S21.out 0 rfl)
        go_wp2_with fail
        clear m0 m1 m2 q0 q1 q2
        refine (jmachine_yes i o9 RS pA L L (some ⟨pB, 0, none⟩) _ hEA (Ex.rd hEB)).mono ?_
        rintro e w22 ⟨rfl, hb22⟩
        have s22 := MT.next S21.out hb22
        clear hb22 hEA hEB
        go_wp2_with fail
        refine (jlives_walk _).mono ?_
        rintro e w24 ⟨rfl, hb24⟩
        have hfin := Lib.hid (MT.next s22 hb24).2.1
        clear s22 hb24
        go_wp2
        go_ret
        exact ⟨rfl, hfin.out⟩
end Go.Proofs.Ytgafpmgdpigliaa
