/-
  The walk of the law JoinsUnite. No statement is proved here.
-/
import Derived.Test.YtcbmohcjmofomaaJb2
import Derived.Test.YtcbmohcjmofomaaJk0
import Derived.Test.YtcbmohcjmofomaaJc1
import Derived.Deep.RegionHeld3
import Derived.Deep.CutRange
namespace Go.Proofs.Ytcbmohcjmofomaa
open Go.RowKit
open Mc (Ed Ma)

theorem uech_zero {a b : Ma} (va : Mc.Val a) (vb : Mc.Val b) (hi : a.i = b.i) (hl : a.r.length + b.r.length ≤ 64) : uech a b = 0 := by
  unfold uech
  rw [if_neg (by rw [jch_of va vb]; simp), if_neg (by simp [hi]), if_neg (by omega)]
set_option maxRecDepth 100000 in
set_option maxHeartbeats 4000000 in
theorem juni_walk (a b d : Int) (p : Bool) (A : Option Addr) (c : Nat) (es : List Int) (a' b' d' : Int) (p' : Bool) (A' : Option Addr) (c' : Nat) (es' : List Int) (B1 : Option Addr) (e1 : Nat) (ws : List Int) (w : World)
    (hr : Rd16 w A es) (hr' : Rd16 w A' es') (hr8 : Rd8 w B1 ws) (hl : es.length ≤ 9223372036854775807) (hl' : es'.length ≤ 9223372036854775807) (hlw : ws.length ≤ 9223372036854775807)
    (ha : 0 ≤ a ∧ a ≤ 255) (hb : 0 ≤ b ∧ b ≤ 255) (hd : 0 ≤ d ∧ d ≤ 255) (ha' : 0 ≤ a' ∧ a' ≤ 255) (hd' : 0 ≤ d' ∧ d' ≤ 255) :
    Calls Try.prog 9 #[.agg #[.int .u8 a, .int .u8 b, .int .u8 d, .bool p, .slice A es.length c], .agg #[.int .u8 a', .int .u8 b', .int .u8 d', .bool p', .slice A' es'.length c'], .agg #[.slice B1 ws.length e1]] w fun e w' => e = .returned (.bool true) ∧ Below w.heap.size w w' := by
  obtain ⟨E1, hE1⟩ : ∃ E, es.length = E := ⟨_, rfl⟩
  obtain ⟨E2, hE2⟩ : ∃ E, es'.length = E := ⟨_, rfl⟩
  obtain ⟨F1, hF1⟩ : ∃ E, ws.length = E := ⟨_, rfl⟩
  obtain ⟨n, hn⟩ : ∃ n : Nat, 1 + a % 6 = n := ⟨(1 + a % 6).toNat, by omega⟩
  obtain ⟨i, hi⟩ : ∃ i : Nat, 1 + b % 3 = i := ⟨(1 + b % 3).toNat, by omega⟩
  obtain ⟨o, ho⟩ : ∃ o : Nat, 1 + d % 3 = o := ⟨(1 + d % 3).toNat, by omega⟩
  obtain ⟨n', hn'⟩ : ∃ n' : Nat, 1 + a' % 6 = n' := ⟨(1 + a' % 6).toNat, by omega⟩
  obtain ⟨o', ho'⟩ : ∃ o' : Nat, 1 + d' % 3 = o' := ⟨(1 + d' % 3).toNat, by omega⟩
  have CM := fun w hr => mofB_at a b d p A c es n i o w hr hl ha hb hd hn hi ho
  have CN := fun w hr => mofB_at a' b d' p' A' c' es' n' i o' w hr hl' ha' hb hd' hn' hi ho'
  have hn6 : n ≤ 6 := by omega
  have hn1 : 1 ≤ n := by omega
  have hi1 : 1 ≤ i := by omega
  have hi3 : i ≤ 3 := by omega
  have ho1 : 1 ≤ o := by omega
  have ho3 : o ≤ 3 := by omega
  have ho1' : 1 ≤ o' := by omega
  have ho3' : o' ≤ 3 := by omega
  have hn6' : n' ≤ 6 := by omega
  have hn1' : 1 ≤ n' := by omega
  have V := Lib.hid (Mc.mkN_val (p := p) (n := n) (i := i) (o := o) (es := es) (by omega) (by omega) (by omega) (by omega) (by omega) (by omega))
  have V' := Lib.hid (Mc.mkN_val (p := p') (n := n') (i := i) (o := o') (es := es') (by omega) (by omega) (by omega) (by omega) (by omega) (by omega))
  have hlen : Hid ((Mc.mkN p n i o es).r.length = n) := Mc.mkN_len _ _ _ _ _
  have hlen' : Hid ((Mc.mkN p' n' i o' es').r.length = n') := Mc.mkN_len _ _ _ _ _
  have hmi : Hid ((Mc.mkN p n i o es).i = i) := rfl
  have hmo : Hid ((Mc.mkN p n i o es).o = o) := rfl
  have hmi' : Hid ((Mc.mkN p' n' i o' es').i = i) := rfl
  have hmo' : Hid ((Mc.mkN p' n' i o' es').o = o') := rfl
  obtain ⟨M, hM⟩ : ∃ M, Mc.mkN p n i o es = M := ⟨_, rfl⟩
  obtain ⟨N, hN⟩ : ∃ N, Mc.mkN p' n' i o' es' = N := ⟨_, rfl⟩
  rw [hM] at V hlen hmi hmo
  rw [hN] at V' hlen' hmi' hmo'
  simp only [hM, hE1] at CM
  simp only [hN, hE2] at CN
  clear hM hN ha hb hd hn hi ho hl ha' hd' hn' ho' hl'
  have CW := fun w h => wof_atJ B1 e1 ws i w h hi1 (by omega) hlw
  have HW := Lib.hid (sym_wdJ (m := M) (i := i) (zs := ws) hmi.out (by omega))
  have HW' := Lib.hid (sym_wdJ (m := N) (i := i) (zs := ws) hmi'.out (by omega))
  obtain ⟨Y, hY⟩ : ∃ Y, Go.Proofs.Ytcbmohcjmofomaa.M.sym i ws = Y := ⟨_, rfl⟩
  rw [hY] at HW HW'
  simp only [hY, hF1] at CW
  have HR := Lib.hid hr
  have HR' := Lib.hid hr'
  have HR8 := Lib.hid hr8
  have HCW := Lib.hid CW
  rw [hE1, hE2, hF1]
  clear hr hr' hr8 hE1 hE2 hF1 hY hlw CW
  obtain ⟨K0, hK0⟩ : ∃ K0, w.heap.size = K0 := ⟨_, rfl⟩
  have hB0 : Below w.heap.size w (((w.alloc (.cells #[.int .u8 a, .int .u8 b, .int .u8 d, .bool p, .slice A E1 c] 40)).alloc (.cells #[.int .u8 a', .int .u8 b', .int .u8 d', .bool p', .slice A' E2 c'] 40)).alloc (.cells #[.slice B1 F1 e1] 48)) := (((Below.refl _ _).alloc (Nat.le_refl _) _).alloc (by simp) _).alloc (by simp; omega) _
  have hX0 : BxX (((w.alloc (.cells #[.int .u8 a, .int .u8 b, .int .u8 d, .bool p, .slice A E1 c] 40)).alloc (.cells #[.int .u8 a', .int .u8 b', .int .u8 d', .bool p', .slice A' E2 c'] 40)).alloc (.cells #[.slice B1 F1 e1] 48)) K0 a b d p A E1 c := by
    have h : BxX (w.alloc (.cells #[.int .u8 a, .int .u8 b, .int .u8 d, .bool p, .slice A E1 c] 40)) K0 a b d p A E1 c := by rw [← hK0]; exact heap_alloc_new w _
    exact (h.below ((Below.refl _ _).alloc (Nat.le_refl _) _)).below ((Below.refl _ _).alloc (Nat.le_refl _) _)
  have hY0 : BxX (((w.alloc (.cells #[.int .u8 a, .int .u8 b, .int .u8 d, .bool p, .slice A E1 c] 40)).alloc (.cells #[.int .u8 a', .int .u8 b', .int .u8 d', .bool p', .slice A' E2 c'] 40)).alloc (.cells #[.slice B1 F1 e1] 48)) (K0 + 1) a' b' d' p' A' E2 c' := by
    have h : BxX ((w.alloc (.cells #[.int .u8 a, .int .u8 b, .int .u8 d, .bool p, .slice A E1 c] 40)).alloc (.cells #[.int .u8 a', .int .u8 b', .int .u8 d', .bool p', .slice A' E2 c'] 40)) (K0 + 1) a' b' d' p' A' E2 c' := by
      have h := heap_alloc_new (w.alloc (.cells #[.int .u8 a, .int .u8 b, .int .u8 d, .bool p, .slice A E1 c] 40)) (.cells #[.int .u8 a', .int .u8 b', .int .u8 d', .bool p', .slice A' E2 c'] 40)
      rw [World.size_alloc, hK0] at h
      exact h
    exact h.below ((Below.refl _ _).alloc (Nat.le_refl _) _)
  have hZ0 : (((w.alloc (.cells #[.int .u8 a, .int .u8 b, .int .u8 d, .bool p, .slice A E1 c] 40)).alloc (.cells #[.int .u8 a', .int .u8 b', .int .u8 d', .bool p', .slice A' E2 c'] 40)).alloc (.cells #[.slice B1 F1 e1] 48)).heap[K0 + 1 + 1]? = some (.cells #[.slice B1 F1 e1] 48) := by
    have h := heap_alloc_new ((w.alloc (.cells #[.int .u8 a, .int .u8 b, .int .u8 d, .bool p, .slice A E1 c] 40)).alloc (.cells #[.int .u8 a', .int .u8 b', .int .u8 d', .bool p', .slice A' E2 c'] 40)) (.cells #[.slice B1 F1 e1] 48)
    rw [World.size_alloc, World.size_alloc, hK0] at h
    exact h
  go_enter Try.func9, Try.ntmps9
  go_upto_region 1 with fail
  obtain ⟨W0, hW0⟩ : ∃ W0, (((w.alloc (.cells #[.int .u8 a, .int .u8 b, .int .u8 d, .bool p, .slice A E1 c] 40)).alloc (.cells #[.int .u8 a', .int .u8 b', .int .u8 d', .bool p', .slice A' E2 c'] 40)).alloc (.cells #[.slice B1 F1 e1] 48)) = W0 := ⟨_, rfl⟩
  rw [hW0] at hB0 hX0 hY0 hZ0
  try rw [hW0]
  try rw [hK0]
  have hX1 := Lib.hid (hX0.far (G := K0 + 1) (k := 1) (by omega) (.int .u8 b))
  have hY1 := Lib.hid (hY0.setB b)
  have hZ1 : Hid ((W0.setCell ⟨K0 + 1, 1, none⟩ (.int .u8 b)).heap[K0 + 1 + 1]? = some (.cells #[.slice B1 F1 e1] 48)) := (Below.heap_setCell _ _ _ _ (show K0 + 1 + 1 ≠ K0 + 1 by omega)).trans hZ0
  have hB1 : Hid (Below w.heap.size w (W0.setCell ⟨K0 + 1, 1, none⟩ (.int .u8 b))) := hB0.setCell (p := ⟨K0 + 1, 1, none⟩) (by show w.heap.size ≤ K0 + 1; omega) _
  obtain ⟨a0, a1, a2, a3, a4⟩ := hX0.cells
  obtain ⟨b0, b1, b2, b3, b4⟩ := hY0.cells
  have bf := hY0.frozen 1
  clear hW0 hK0 hB0 hZ0
  go_upto_region 2 with fail
  obtain ⟨W1, hW1⟩ : ∃ W1, W0.setCell ⟨K0 + 1, 1, none⟩ (.int .u8 b) = W1 := ⟨_, rfl⟩
  rw [hW1] at hX1 hY1 hZ1 hB1
  try rw [hW1]
  clear hW1 a0 a1 a2 a3 a4 b0 b1 b2 b3 b4 bf hX0 hY0
  go_cut [7, 8] from 16 to 73 (fun u v wx => ∃ (G H : Nat) (R S : Option Addr) (c1 c2 : Nat), u = .pointer (some ⟨G, 0, none⟩) ∧ v = .pointer (some ⟨H, 0, none⟩) ∧ Hid (TwR W1 M.r N.r G H R S n n' c1 c2 i o i o' wx))
  case first =>
    refine two_boxes (w4 := W1) (t0 := 16) (t1 := 17) (t2 := 18) (t3 := 19) (t4 := 7) (t5 := 8) (vA := .agg #[.int .u8 a, .int .u8 b, .int .u8 d, .bool p, .slice A E1 c]) (vB := .agg #[.int .u8 a', .int .u8 b, .int .u8 d', .bool p', .slice A' E2 c']) (i := i) (o := o) (i' := i) (o' := o') (n := n) (m := n') (ra := M.r) (rb := N.r) (he := rfl) (hm := by kernel_rfl) (hb := by kernel_rfl) (hn := by kernel_rfl) (hd := ⟨rfl, rfl, rfl, rfl, rfl, rfl, rfl, rfl⟩) (hg := ⟨rfl, rfl, rfl, rfl, rfl, rfl, rfl, rfl⟩) (hnd := by decide) (hlt := fun t ht => ?lt) (hw := Below.refl _ _) (k0 := fun x w hb hf => loadX_yields rfl (hf 3 (by decide) (by decide) (by decide) (by decide) (by decide) (by decide)) (hX1.out.below hb)) (k2 := fun x w hb hf => loadX_yields rfl (hf 4 (by decide) (by decide) (by decide) (by decide) (by decide) (by decide)) (hY1.out.below hb)) (k1 := fun x wr hb hv => ?k1) (k3 := fun x wr hb hv => ?k3) (k4 := rfl) (k5 := rfl) (k6 := rfl) (k7 := rfl) (hend := fun G H R S c1 c2 wx hR => ?ends)
    case lt =>
      have h30 : t ≤ 19 := by simp at ht; omega
      show t < 74
      omega
    case k1 =>
      have hv' : x.tmps[16]?.getD undef = .agg #[.int .u8 a, .int .u8 b, .int .u8 d, .bool p, .slice A E1 c] := by simpa using hv
      unfold yieldsM
      simp [go_sem, hv']
      refine (CM _ (HR.out.below (below_next hB1.out hb))).mono ?_
      rintro e w' ⟨B, k9, vs, rfl, hB, hbl⟩
      exact ⟨_, rfl, B, k9, rfl, ⟨_, vs, hB.out⟩, hbl⟩
    case k3 =>
      have hv' : x.tmps[18]?.getD undef = .agg #[.int .u8 a', .int .u8 b, .int .u8 d', .bool p', .slice A' E2 c'] := by simpa using hv
      unfold yieldsM
      simp [go_sem, hv']
      refine (CN _ (HR'.out.below (below_next hB1.out hb))).mono ?_
      rintro e w' ⟨B, k9, vs, rfl, hB, hbl⟩
      exact ⟨_, rfl, B, k9, rfl, ⟨_, vs, hB.out⟩, hbl⟩
    case ends =>
      simp [Act.put]
      go_wp2_with fail
      go_meet
      exact ⟨G, H, R, S, c1, c2, rfl, rfl, ⟨hR.ne, hR.bg, hR.bh, hR.ra, hR.rb, hR.lo, hR.bel⟩⟩
  case rest =>
  obtain ⟨G, H, R, S, c1, c2, rfl, rfl, hS⟩ := hcut
  obtain ⟨w2, hw2⟩ : ∃ x, x = wc := ⟨_, rfl⟩
  rw [← hw2] at hS ⊢
  clear hw2
  have s1 : MT w w2 [] := MT.next (MT.next MT.start hB1.out) hS.out.bel
  obtain ⟨_, _, hra⟩ := hS.out.ra
  obtain ⟨_, _, hrb⟩ := hS.out.rb
  have hz2 : w2.heap[K0 + 1 + 1]? = some (.cells #[.slice B1 F1 e1] 48) := (hS.out.bel.block _ (heap_lt hZ1.out)).trans hZ1.out
  have s2 := MK.putB (MK.putB (MK.putR (MK.putR s1 hra.two) hrb.two) hS.out.bg) hS.out.bh
  -- 0: H, 1: G, 2: N.r, 3: M.r
  have z0 : w2.cell? ⟨K0 + 1 + 1, 0, none⟩ = some (.slice B1 F1 e1) := by rw [cell_of_row _ _ _ _ _ _ hz2]; rfl
  clear s1 hra hrb hS hX1 hY1 hZ1 hB1 CM CN HR HR' hz2
  obtain ⟨m0, m1, m2⟩ := BxM.cells (MK.get s2 1 rfl)
  go_wp2_with fail
  clear m0 m1 m2 z0
  refine (HCW.out _ (HR8.out.below s2.2.1)).mono ?_
  rintro e w3 ⟨UB, ku, qu, rfl, hku, h12, hru, hkq, hb3⟩
  have s3 := MK.putL (MT.next s2 hb3) hru
  clear s2 hb3 hru HCW HR8
  -- 0: the word, 1: H, 2: G, 3: N.r, 4: M.r

  have hii : Hid (M.i = N.i) := by show _ = _; rw [hmi.out, hmi'.out]
  obtain ⟨K, hK⟩ : ∃ K, n + n' = K := ⟨_, rfl⟩
  obtain ⟨OO, hOO⟩ : ∃ OO : Int, max (o : Int) o' = OO := ⟨_, rfl⟩
  have VB := Lib.hid (Mc.bes_val V.out V'.out hii.out (by rw [hlen.out, hlen'.out]; omega))
  have HBL : Hid ((Mc.bes M N).r.length = K) := by show _ = _; rw [Mc.bes_len, hlen.out, hlen'.out, hK]
  have HBI : Hid ((Mc.bes M N).i = i) := hmi.out
  have HBO : Hid ((Mc.bes M N).o = OO) := by show max M.o N.o = _; rw [hmo.out, hmo'.out, hOO]
  have CU : Hid (∀ wr, RdR wr R M.r → RdR wr S N.r → Calls Try.prog 41 #[.agg #[.int .i64 i, .int .i64 o, .slice R n c1], .agg #[.int .i64 i, .int .i64 o', .slice S n' c2]] wr (JxP wr i OO K (Mc.bes M N).r)) := fun wr hR hS => by
    have v1 := V.out.r1
    have v2 := V'.out.r1
    have h := unite_any M N R S n c1 n' c2 wr hR hlen.out (by omega) (fun row hr => by have := V.out.len row hr; have := V.out.i1; omega) hS hlen'.out (by omega) (fun row hr => by have := V'.out.len row hr; have := V'.out.i1; omega)
    rw [hmi.out, hmo.out, hmi'.out, hmo'.out, hOO] at h
    exact h.mono fun _ _ h => JeP.ok h (uech_zero V.out V'.out hii.out (by rw [hlen.out, hlen'.out]; omega)) HBL.out (by omega) (fun row hr => by have := VB.out.len row hr; have := VB.out.i1; omega)
  have CB : Hid (∀ wr, RdR wr R M.r → RdR wr S N.r → Calls Try.prog 42 #[.agg #[.int .i64 i, .int .i64 o, .slice R n c1], .agg #[.int .i64 i, .int .i64 o', .slice S n' c2]] wr (BesP wr i OO K (Mc.bes M N).r)) := fun wr hR hS => by
    have v1 := V.out.r1
    have v2 := V'.out.r1
    have h := beside_any M N i o o' R S n c1 n' c2 wr hR hlen.out hS hlen'.out (by omega) (by omega) (by omega) (fun row hr => by rw [V'.out.len row hr, hmi'.out]) (fun row hr e he => by have := V'.out.ok row hr e he; omega)
    rw [hOO, hK] at h
    have e : M.r ++ N.r.map (fun row => row.map (Mc.sh n)) = (Mc.bes M N).r := by show _ = M.r ++ N.r.map (fun row => row.map (Mc.sh M.r.length)); rw [hlen.out]
    rwa [e] at h
  have hK1 : 1 ≤ K := by omega
  have hK12 : K ≤ 12 := by omega
  have HK := Lib.hid hK
  clear hK hOO
  obtain ⟨m0, m1, m2⟩ := BxM.cells (MK.get s3 2 rfl)
  obtain ⟨q0, q1, q2⟩ := BxM.cells (MK.get s3 1 rfl)
  go_wp2_with fail
  clear m0 m1 m2 q0 q1 q2
  refine (CU.out _ (MK.get s3 4 rfl) (MK.get s3 3 rfl)).mono ?_
  rintro e w4 ⟨P, rfl, hx, hb4⟩
  have s4 := MK.putXJ (MT.next s3 hb4) hx
  clear s3 hb4 hx CU
  have s5 := MK.putB (g := w4.heap.size) (MT.alloc s4 (.cells #[.int .i64 i, .int .i64 OO, .slice (some ⟨P, 0, none⟩) K K] 24)) (heap_alloc_new w4 _)
  clear s4
  go_upto_region 5 with fail
  obtain ⟨w5, hw⟩ : ∃ q, w4.alloc (.cells #[.int .i64 i, .int .i64 OO, .slice (some ⟨P, 0, none⟩) K K] 24) = q := ⟨_, rfl⟩
  obtain ⟨T, hT⟩ : ∃ T, w4.heap.size = T := ⟨_, rfl⟩
  rw [hw, hT] at s5
  try rw [hw]
  try rw [hT]
  clear hw hT
  -- 0: T, 1: rows of P, 2: the word, 3: H, 4: G, 5: N.r, 6: M.r
  have S5 := Lib.hid s5
  have HS : Hid (∀ W : World, Below w5.heap.size w5 W → (W.cell? ⟨T, 0, none⟩ = some (.int .i64 i) ∧ W.cell? ⟨T, 1, none⟩ = some (.int .i64 OO) ∧ W.cell? ⟨T, 2, none⟩ = some (.slice (some ⟨P, 0, none⟩) K K) ∧ W.cell? ⟨G, 0, none⟩ = some (.int .i64 i) ∧ W.cell? ⟨G, 1, none⟩ = some (.int .i64 o) ∧ W.cell? ⟨G, 2, none⟩ = some (.slice R n c1) ∧ W.cell? ⟨H, 0, none⟩ = some (.int .i64 i) ∧ W.cell? ⟨H, 1, none⟩ = some (.int .i64 o') ∧ W.cell? ⟨H, 2, none⟩ = some (.slice S n' c2))) := fun W hb => by
    have s6 := MT.next S5.out hb
    obtain ⟨a0, a1, a2⟩ := BxM.cells (MK.get s6 0 rfl)
    obtain ⟨b0, b1, b2⟩ := BxM.cells (MK.get s6 4 rfl)
    obtain ⟨d0, d1, d2⟩ := BxM.cells (MK.get s6 3 rfl)
    exact ⟨a0, a1, a2, b0, b1, b2, d0, d1, d2⟩
  clear s5
  have HD : Hid (Below w5.heap.size w5 w5.drew) := (Below.refl _ _).drew
  have s0 := HS.out _ (Below.refl _ _)
  have sD := HS.out _ HD.out
  obtain ⟨a0, a1, a2, b0, b1, b2, d0, d1, d2⟩ := HS.out _ (Below.refl _ _)
  have hkz : ((K : Int) == 0) = false := by rw [beq_eq_false_iff_ne]; omega
  have CY : Hid (∀ wr (B : Option Addr) (e : Nat), Below w5.heap.size w5 wr → RdR wr B (Mc.bes M N).r → Calls Try.prog 30 #[.agg #[.int .i64 i, .int .i64 OO, .slice (some ⟨P, 0, none⟩) K K], .int .i64 0, .agg #[.int .i64 i, .int .i64 OO, .slice B K e]] wr fun e w' => e = .returned (.bool true) ∧ Below wr.heap.size wr w') := fun wr B e hb hB =>
    jmachine_yes i OO (Mc.bes M N).r P K e B wr (MK.get (MT.next S5.out hb) 1 rfl) hB
  go_region_held3 (fun W => (W.cell? ⟨T, 0, none⟩ = some (.int .i64 i) ∧ W.cell? ⟨T, 1, none⟩ = some (.int .i64 OO) ∧ W.cell? ⟨T, 2, none⟩ = some (.slice (some ⟨P, 0, none⟩) K K) ∧ W.cell? ⟨G, 0, none⟩ = some (.int .i64 i) ∧ W.cell? ⟨G, 1, none⟩ = some (.int .i64 o) ∧ W.cell? ⟨G, 2, none⟩ = some (.slice R n c1) ∧ W.cell? ⟨H, 0, none⟩ = some (.int .i64 i) ∧ W.cell? ⟨H, 1, none⟩ = some (.int .i64 o') ∧ W.cell? ⟨H, 2, none⟩ = some (.slice S n' c2)))
    (first | (with_reducible exact s2) | (with_reducible exact s1) | (with_reducible exact s0) | (with_reducible exact sD) | go_keep)
    (first
      | (go_at_call 42
         (with_reducible refine (CB.out _ (MK.get (MT.next S5.out HD.out) 6 rfl) (MK.get (MT.next S5.out HD.out) 5 rfl)).mono ?_)
         rintro e z1 ⟨B9, e9, rfl, hrb9, hz1⟩
         have t1 := Lib.hid (below_next HD.out hz1)
         have s1 := HS.out _ t1.out
         dsimp only)
      | (go_at_call 30
         (with_reducible refine (CY.out _ B9 e9 t1.out hrb9).mono ?_)
         rintro e z2 ⟨rfl, hz2⟩
         have t2 := Lib.hid (below_next t1.out hz2)
         have s2 := HS.out _ t2.out
         dsimp only)
      | fail)
  have HZ2 := Lib.hid t2.out
  clear s0 sD s1 s2 a0 a1 a2 b0 b1 b2 d0 d1 d2 hkz CY CB t1 hz1 hz2 hrb9
  have hWB : Hid (Mc.Wd (Mc.bes M N) Y) := HW.out.of_i rfl
  have CR1 : Hid (∀ (wr : World) (s : Nat), Below w5.heap.size w5 wr → s < n' → Calls Try.prog 26 #[.agg #[.int .i64 i, .int .i64 OO, .slice (some ⟨P, 0, none⟩) K K], .int .i64 ((n : Int) + s), .slice UB ku qu] wr fun e w' => ∃ B q, e = .returned (.slice B ku q) ∧ Rd w' B (Mc.run N s Y) ∧ Below wr.heap.size wr w') := fun wr s hb hs => by
    have s6 := MT.next S5.out hb
    have h := rrun_atJ (Mc.bes M N) i OO (some ⟨P, 0, none⟩) K K wr ((n : Int) + s) UB ku qu Y VB.out HBI.out HBO.out HBL.out hku.out (Ex.rd (MK.get s6 1 rfl)) (MK.get s6 2 rfl) (Or.inr ⟨by omega, by rw [HBL.out, ← HK.out]; omega⟩) hWB.out (by omega)
    have e : Mc.run (Mc.bes M N) ((n : Int) + s) Y = Mc.run N s Y := by
      have h1 := Mc.bes_run2 (a := M) V'.out Y s (Or.inr ⟨by omega, by rw [hlen'.out]; omega⟩) HW'.out
      rw [show Mc.shs M.r.length s = (n : Int) + s by unfold Mc.shs; rw [if_pos (by omega), hlen.out]; omega] at h1
      exact h1
    rwa [e] at h
  have CR2 : Hid (∀ (wr : World) (s : Nat), Below w5.heap.size w5 wr → s < n' → Calls Try.prog 26 #[.agg #[.int .i64 i, .int .i64 o', .slice S n' c2], .int .i64 s, .slice UB ku qu] wr fun e w' => ∃ B q, e = .returned (.slice B ku q) ∧ Rd w' B (Mc.run N s Y) ∧ Below wr.heap.size wr w') := fun wr s hb hs => by
    have s6 := MT.next S5.out hb
    exact rrun_atJ N i o' S n' c2 wr s UB ku qu Y V'.out hmi'.out hmo'.out hlen'.out hku.out (MK.get s6 5 rfl) (MK.get s6 2 rfl) (Or.inr ⟨by omega, by rw [hlen'.out]; omega⟩) HW'.out (by omega)
  have CR3 : Hid (∀ (wr : World), Below w5.heap.size w5 wr → Calls Try.prog 26 #[.agg #[.int .i64 i, .int .i64 OO, .slice (some ⟨P, 0, none⟩) K K], .int .i64 0, .slice UB ku qu] wr fun e w' => ∃ B q, e = .returned (.slice B ku q) ∧ Rd w' B (Mc.run M 0 Y) ∧ Below wr.heap.size wr w') := fun wr hb => by
    have s6 := MT.next S5.out hb
    have h := rrun_atJ (Mc.bes M N) i OO (some ⟨P, 0, none⟩) K K wr 0 UB ku qu Y VB.out HBI.out HBO.out HBL.out hku.out (Ex.rd (MK.get s6 1 rfl)) (MK.get s6 2 rfl) (Or.inr ⟨by omega, by rw [HBL.out]; omega⟩) hWB.out (by omega)
    rwa [Mc.bes_run1 V.out Y 0 (Or.inr ⟨by omega, by rw [hlen.out]; omega⟩) HW.out] at h
  have CR4 : Hid (∀ (wr : World), Below w5.heap.size w5 wr → Calls Try.prog 26 #[.agg #[.int .i64 i, .int .i64 o, .slice R n c1], .int .i64 0, .slice UB ku qu] wr fun e w' => ∃ B q, e = .returned (.slice B ku q) ∧ Rd w' B (Mc.run M 0 Y) ∧ Below wr.heap.size wr w') := fun wr hb => by
    have s6 := MT.next S5.out hb
    exact rrun_atJ M i o R n c1 wr 0 UB ku qu Y V.out hmi.out hmo.out hlen.out hku.out (MK.get s6 6 rfl) (MK.get s6 2 rfl) (Or.inr ⟨by omega, by rw [hlen.out]; omega⟩) HW.out (by omega)
  go_wp2_with fail
  go_loopw [12] (fun v wr => ∃ s : Nat, s ≤ n' ∧ v = .int .i64 s ∧ Hid (Below w5.heap.size w5 wr)) (fun v _ => n' - (intOf v).toNat)
  case atStart => exact ⟨0, Nat.zero_le _, rfl, HZ2⟩
  case round =>
    obtain ⟨s, hs, rfl, hb⟩ := hrel
    clear HZ2 t2
    have HD : Hid (Below wr.heap.size wr wr.drew) := (Below.refl _ _).drew
    have s0 := HS.out _ hb.out
    have sD := HS.out _ (below_next hb.out HD.out)
    obtain ⟨a0, a1, a2, b0, b1, b2, d0, d1, d2⟩ := HS.out _ hb.out
    by_cases hlt : s < n'
    · have hlt' : (s : Int) < n' := by omega
      have hwr := IntWalk.i64_in ((n : Int) + s) (by omega)
      go_wp2_with fail
      go_region_held3 (fun W => (W.cell? ⟨T, 0, none⟩ = some (.int .i64 i) ∧ W.cell? ⟨T, 1, none⟩ = some (.int .i64 OO) ∧ W.cell? ⟨T, 2, none⟩ = some (.slice (some ⟨P, 0, none⟩) K K) ∧ W.cell? ⟨G, 0, none⟩ = some (.int .i64 i) ∧ W.cell? ⟨G, 1, none⟩ = some (.int .i64 o) ∧ W.cell? ⟨G, 2, none⟩ = some (.slice R n c1) ∧ W.cell? ⟨H, 0, none⟩ = some (.int .i64 i) ∧ W.cell? ⟨H, 1, none⟩ = some (.int .i64 o') ∧ W.cell? ⟨H, 2, none⟩ = some (.slice S n' c2)))
        (first | (with_reducible exact s3) | (with_reducible exact s2) | (with_reducible exact s1) | (with_reducible exact s0) | (with_reducible exact sD) | go_keep)
        (first
          | (go_at_call 26
             (with_reducible refine (CR1.out _ s (below_next hb.out HD.out) hlt).mono ?_)
             rintro e z1 ⟨B8, e8, rfl, hr8, hz1⟩
             have t1 := Lib.hid (below_next HD.out hz1)
             have s1 := HS.out _ (below_next hb.out t1.out)
             dsimp only)
          | (go_at_call 26
             (with_reducible refine (CR2.out _ s (below_next hb.out t1.out) hlt).mono ?_)
             rintro e z2 ⟨B9, e9, rfl, hr9, hz2⟩
             have t2 := Lib.hid (below_next t1.out hz2)
             have s2 := HS.out _ (below_next hb.out t2.out)
             dsimp only)
          | (go_at_call 39
             (with_reducible refine (same_yesJ B8 B9 ku e8 e9 _ _ _ (hr8.below hz2) hr9 ((Mc.run_len _ _ _).trans hku.out) rfl (by omega)).mono ?_)
             rintro e z3 ⟨rfl, hz3⟩
             have t3 := Lib.hid (below_next t2.out hz3)
             have s3 := HS.out _ (below_next hb.out t3.out)
             dsimp only)
          | fail)
      have HZ3 := Lib.hid (below_next hb.out t3.out)
      clear s0 s1 s2 s3 sD a0 a1 a2 b0 b1 b2 d0 d1 d2 t1 t2 t3 hz1 hz2 hz3 hr8 hr9
      go_wp2
      go_roundw
      case rel => exact ⟨s + 1, by omega, by go_num, HZ3⟩
      case measure => simp [intOf]; omega
    · have hlt' : ¬ (s : Int) < n' := by omega
      go_wp2_with fail
      go_region_held3 (fun W => (W.cell? ⟨T, 0, none⟩ = some (.int .i64 i) ∧ W.cell? ⟨T, 1, none⟩ = some (.int .i64 OO) ∧ W.cell? ⟨T, 2, none⟩ = some (.slice (some ⟨P, 0, none⟩) K K) ∧ W.cell? ⟨G, 0, none⟩ = some (.int .i64 i) ∧ W.cell? ⟨G, 1, none⟩ = some (.int .i64 o) ∧ W.cell? ⟨G, 2, none⟩ = some (.slice R n c1) ∧ W.cell? ⟨H, 0, none⟩ = some (.int .i64 i) ∧ W.cell? ⟨H, 1, none⟩ = some (.int .i64 o') ∧ W.cell? ⟨H, 2, none⟩ = some (.slice S n' c2)))
        (first | (with_reducible exact s4) | (with_reducible exact s3) | (with_reducible exact s2) | (with_reducible exact s1) | (with_reducible exact s0) | (with_reducible exact sD) | go_keep)
        (first
          | (go_at_call 26
             (with_reducible refine (CR3.out _ (below_next hb.out HD.out)).mono ?_)
             rintro e z1 ⟨B8, e8, rfl, hr8, hz1⟩
             have t1 := Lib.hid (below_next HD.out hz1)
             have s1 := HS.out _ (below_next hb.out t1.out)
             dsimp only)
          | (go_at_call 26
             (with_reducible refine (CR4.out _ (below_next hb.out t1.out)).mono ?_)
             rintro e z2 ⟨B9, e9, rfl, hr9, hz2⟩
             have t2 := Lib.hid (below_next t1.out hz2)
             have s2 := HS.out _ (below_next hb.out t2.out)
             dsimp only)
          | (go_at_call 39
             (with_reducible refine (same_yesJ B8 B9 ku e8 e9 _ _ _ (hr8.below hz2) hr9 ((Mc.run_len _ _ _).trans hku.out) rfl (by omega)).mono ?_)
             rintro e z3 ⟨rfl, hz3⟩
             have t3 := Lib.hid (below_next t2.out hz3)
             have s3 := HS.out _ (below_next hb.out t3.out)
             dsimp only)
          | (go_at_call 29
             (with_reducible refine (jlives_walk _).mono ?_)
             rintro e z4 ⟨rfl, hz4⟩
             have t4 := Lib.hid (below_next t3.out hz4)
             have s4 := HS.out _ (below_next hb.out t4.out)
             dsimp only)
          | fail)
      have hfin := Lib.hid (MT.next S5.out (below_next hb.out t4.out)).2.1
      clear s0 s1 s2 s3 s4 sD a0 a1 a2 b0 b1 b2 d0 d1 d2 t1 t2 t3 t4 hz1 hz2 hz3 hz4 hr8 hr9
      go_wp2
      go_ret
      exact ⟨rfl, hfin.out⟩
end Go.Proofs.Ytcbmohcjmofomaa
