/-
  The walk of the law JoinsParallel. No statement is proved here.
-/
import Derived.Test.YtcbmohcjmofomaaJb2
import Derived.Test.YtcbmohcjmofomaaJk0
import Derived.Test.YtcbmohcjmofomaaJxZ
import Derived.Deep.RegionHeld3
import Derived.Deep.CutRange
import Derived.Deep.QuietTactic
namespace Go.Proofs.Ytcbmohcjmofomaa
open Go.RowKit
open Mc (Ed Ma)

namespace Mc
/-- The response of machines in parallel tells both. -/
theorem par_run {a b : Ma} (va : Val a) (vb : Val b) (hi : a.i = b.i) : ∀ (w : List Int) (s t : Nat), s < a.r.length → t < b.r.length → Wd a w → run (par a b) ((s * b.r.length + t : Nat) : Int) w = List.zipWith (fun x y => if 0 ≤ x ∧ 0 ≤ y then x * b.o + y else -1) (run a s w) (run b t w)
  | [], _, _, _, _, _ => rfl
  | c :: w, s, t, hs, ht, hw => by
    have hc := hw c (by simp)
    obtain ⟨c, rfl⟩ := Int.eq_ofNat_of_zero_le hc.1
    have hw' : Wd a w := fun d hd => hw d (by simp [hd])
    have hs1 := nx_st va (s := s) (i := c) (Or.inr ⟨by omega, by omega⟩) hc
    have ht1 := nx_st vb (s := t) (i := c) (Or.inr ⟨by omega, by omega⟩) ⟨hc.1, by rw [← hi]; exact hc.2⟩
    have hn : nx (par a b) ((s * b.r.length + t : Nat) : Int) (c : Int) = jE b.r.length (parF a b s t c) := jm_at hs ht hc.2
    show (nx (par a b) ((s * b.r.length + t : Nat) : Int) (c : Int)).2 :: run (par a b) (nx (par a b) ((s * b.r.length + t : Nat) : Int) (c : Int)).1 w = List.zipWith _ ((nx a s c).2 :: run a (nx a s c).1 w) ((nx b t c).2 :: run b (nx b t c).1 w)
    rw [List.zipWith_cons_cons, hn]
    by_cases hd : (nx a s c).1 = -1 ∨ (nx b t c).1 = -1
    · have e : jE b.r.length (parF a b s t c) = nE := jE_none hd
      rw [e]
      have hdead : ∀ (m : Ma) (w : List Int), run m (-1) w = List.replicate w.length (-1) := fun m w => by
        induction w with
        | nil => rfl
        | cons d w ih =>
          show (nx m (-1) d).2 :: run m (nx m (-1) d).1 w = _
          rw [nx_neg (by omega)]
          show (-1 : Int) :: run m (-1) w = _
          rw [ih, List.length_cons, List.replicate_succ]
      have hz : ∀ (X Y : List Int), X.length = w.length → Y.length = w.length → ((∀ x ∈ X, x = -1) ∨ (∀ y ∈ Y, y = -1)) → List.zipWith (fun x y => if 0 ≤ x ∧ 0 ≤ y then x * b.o + y else -1) X Y = List.replicate w.length (-1) := fun X Y hX hY h => by
        refine List.ext_getElem (by simp [hX, hY]) fun k h1 h2 => ?_
        rw [List.getElem_zipWith, List.getElem_replicate]
        have hk : k < w.length := by simpa using h2
        rcases h with h | h
        · rw [h _ (List.getElem_mem (by omega : k < X.length)), if_neg (by omega)]
        · rw [h _ (List.getElem_mem (by omega : k < Y.length)), if_neg (by omega)]
      have hout : (if 0 ≤ (nx a s c).2 ∧ 0 ≤ (nx b t c).2 then (nx a s c).2 * b.o + (nx b t c).2 else -1) = -1 := by
        rw [if_neg]
        rcases hd with h | h
        · have := hs1.2.1 h; omega
        · have := ht1.2.1 h; omega
      rw [hout]
      show (-1 : Int) :: run (par a b) (-1) w = _
      rw [hdead, hz _ _ (run_len _ _ _) (run_len _ _ _)]
      rcases hd with h | h
      · rw [h, hdead]; exact Or.inl fun x hx => List.eq_of_mem_replicate hx
      · rw [h, hdead]; exact Or.inr fun x hx => List.eq_of_mem_replicate hx
    · have g1 : 0 ≤ (nx a s c).1 ∧ (nx a s c).1 < a.r.length := by rcases hs1.1 with e | e <;> omega
      have g2 : 0 ≤ (nx b t c).1 ∧ (nx b t c).1 < b.r.length := by rcases ht1.1 with e | e <;> omega
      obtain ⟨u, hu⟩ := Int.eq_ofNat_of_zero_le g1.1
      obtain ⟨v, hv⟩ := Int.eq_ofNat_of_zero_le g2.1
      have e : jE b.r.length (parF a b s t c) = (((u * b.r.length + v : Nat) : Int), (nx a s c).2 * b.o + (nx b t c).2) := jE_some hu hv
      rw [e, hu, hv]
      have ih := par_run va vb hi w u v (by omega) (by omega) hw'
      rw [ih, if_pos ⟨hs1.2.2.2.2 g1.1, ht1.2.2.2.2 g2.1⟩]
end Mc
theorem run_outJ {m : Ma} (v : Mc.Val m) : ∀ (w : List Int) (s : Int), Mc.St m s → Mc.Wd m w → ∀ x ∈ Mc.run m s w, -1 ≤ x ∧ x < m.o
  | [], _, _, _, x, hx => by cases hx
  | c :: w, s, hs, hw, x, hx => by
    have h := Mc.nx_st v hs (hw c (by simp))
    rcases List.mem_cons.1 (show x ∈ (Mc.nx m s c).2 :: Mc.run m (Mc.nx m s c).1 w from hx) with rfl | hx
    · exact ⟨h.2.2.1, h.2.2.2.1⟩
    · exact run_outJ v w _ h.1 (fun d hd => hw d (by simp [hd])) x hx
theorem pech_zero {a b : Ma} (va : Mc.Val a) (vb : Mc.Val b) (hi : a.i = b.i) (hl : a.o * b.o ≤ 16) : pech a b = 0 := by
  unfold pech
  rw [if_neg (by rw [jch_of va vb]; simp), if_neg (by simp [hi]), if_neg (by omega)]
set_option maxRecDepth 100000 in
set_option maxHeartbeats 4000000 in
theorem jpar_walk (a b d : Int) (p : Bool) (A : Option Addr) (c : Nat) (es : List Int) (a' b' d' : Int) (p' : Bool) (A' : Option Addr) (c' : Nat) (es' : List Int) (B1 : Option Addr) (e1 : Nat) (ws : List Int) (w : World)
    (hr : Rd16 w A es) (hr' : Rd16 w A' es') (hr8 : Rd8 w B1 ws) (hl : es.length ≤ 9223372036854775807) (hl' : es'.length ≤ 9223372036854775807) (hlw : ws.length ≤ 9223372036854775807)
    (ha : 0 ≤ a ∧ a ≤ 255) (hb : 0 ≤ b ∧ b ≤ 255) (hd : 0 ≤ d ∧ d ≤ 255) (ha' : 0 ≤ a' ∧ a' ≤ 255) (hd' : 0 ≤ d' ∧ d' ≤ 255) :
    Calls Try.prog 5 #[.agg #[.int .u8 a, .int .u8 b, .int .u8 d, .bool p, .slice A es.length c], .agg #[.int .u8 a', .int .u8 b', .int .u8 d', .bool p', .slice A' es'.length c'], .agg #[.slice B1 ws.length e1]] w fun e w' => e = .returned (.bool true) ∧ Below w.heap.size w w' := by
  obtain ⟨E1, hE1⟩ : ∃ E, es.length = E := ⟨_, rfl⟩
  obtain ⟨E2, hE2⟩ : ∃ E, es'.length = E := ⟨_, rfl⟩
  obtain ⟨F1, hF1⟩ : ∃ E, ws.length = E := ⟨_, rfl⟩
  obtain ⟨n, hn⟩ : ∃ n : Nat, 1 + a % 6 = n := ⟨(1 + a % 6).toNat, by omega⟩
  obtain ⟨i, hi⟩ : ∃ i : Nat, 1 + b % 3 = i := ⟨(1 + b % 3).toNat, by omega⟩
  obtain ⟨o, ho⟩ : ∃ o : Nat, 1 + d % 3 = o := ⟨(1 + d % 3).toNat, by omega⟩
  obtain ⟨n', hn'⟩ : ∃ n' : Nat, 1 + a' % 6 = n' := ⟨(1 + a' % 6).toNat, by omega⟩
  obtain ⟨o', ho'⟩ : ∃ o' : Nat, 1 + d' % 3 = o' := ⟨(1 + d' % 3).toNat, by omega⟩
  have CM := fun w hr => mofB_at a b d p A c es n i o w hr hl ha hb hd hn hi ho
  have CN := fun w hr => mofB_at a' b d' p' A' c' es' n' i o' w hr hl' ha' hb hd' hn' hi ho'
  have hn6 : n ≤ 6 := by omega
  have hn1 : 1 ≤ n := by omega
  have hi1 : 1 ≤ i := by omega
  have hi3 : i ≤ 3 := by omega
  have ho1 : 1 ≤ o := by omega
  have ho3 : o ≤ 3 := by omega
  have ho1' : 1 ≤ o' := by omega
  have ho3' : o' ≤ 3 := by omega
  have hn6' : n' ≤ 6 := by omega
  have hn1' : 1 ≤ n' := by omega
  have V := Lib.hid (Mc.mkN_val (p := p) (n := n) (i := i) (o := o) (es := es) (by omega) (by omega) (by omega) (by omega) (by omega) (by omega))
  have V' := Lib.hid (Mc.mkN_val (p := p') (n := n') (i := i) (o := o') (es := es') (by omega) (by omega) (by omega) (by omega) (by omega) (by omega))
  have hlen : Hid ((Mc.mkN p n i o es).r.length = n) := Mc.mkN_len _ _ _ _ _
  have hlen' : Hid ((Mc.mkN p' n' i o' es').r.length = n') := Mc.mkN_len _ _ _ _ _
  have hmi : Hid ((Mc.mkN p n i o es).i = i) := rfl
  have hmo : Hid ((Mc.mkN p n i o es).o = o) := rfl
  have hmi' : Hid ((Mc.mkN p' n' i o' es').i = i) := rfl
  have hmo' : Hid ((Mc.mkN p' n' i o' es').o = o') := rfl
  obtain ⟨M, hM⟩ : ∃ M, Mc.mkN p n i o es = M := ⟨_, rfl⟩
  obtain ⟨N, hN⟩ : ∃ N, Mc.mkN p' n' i o' es' = N := ⟨_, rfl⟩
  rw [hM] at V hlen hmi hmo
  rw [hN] at V' hlen' hmi' hmo'
  simp only [hM, hE1] at CM
  simp only [hN, hE2] at CN
  clear hM hN ha hb hd hn hi ho hl ha' hd' hn' ho' hl'
  have CW := fun w h => wof_atJ B1 e1 ws i w h hi1 (by omega) hlw
  have HW := Lib.hid (sym_wdJ (m := M) (i := i) (zs := ws) hmi.out (by omega))
  have HW' := Lib.hid (sym_wdJ (m := N) (i := i) (zs := ws) hmi'.out (by omega))
  obtain ⟨Y, hY⟩ : ∃ Y, Go.Proofs.Ytcbmohcjmofomaa.M.sym i ws = Y := ⟨_, rfl⟩
  rw [hY] at HW HW'
  simp only [hY, hF1] at CW
  have HR := Lib.hid hr
  have HR' := Lib.hid hr'
  have HR8 := Lib.hid hr8
  have HCW := Lib.hid CW
  rw [hE1, hE2, hF1]
  clear hr hr' hr8 hE1 hE2 hF1 hY hlw CW
  obtain ⟨K0, hK0⟩ : ∃ K0, w.heap.size = K0 := ⟨_, rfl⟩
  have hB0 : Below w.heap.size w (((w.alloc (.cells #[.int .u8 a, .int .u8 b, .int .u8 d, .bool p, .slice A E1 c] 40)).alloc (.cells #[.int .u8 a', .int .u8 b', .int .u8 d', .bool p', .slice A' E2 c'] 40)).alloc (.cells #[.slice B1 F1 e1] 48)) := (((Below.refl _ _).alloc (Nat.le_refl _) _).alloc (by simp) _).alloc (by simp; omega) _
  have hX0 : BxX (((w.alloc (.cells #[.int .u8 a, .int .u8 b, .int .u8 d, .bool p, .slice A E1 c] 40)).alloc (.cells #[.int .u8 a', .int .u8 b', .int .u8 d', .bool p', .slice A' E2 c'] 40)).alloc (.cells #[.slice B1 F1 e1] 48)) K0 a b d p A E1 c := by
    have h : BxX (w.alloc (.cells #[.int .u8 a, .int .u8 b, .int .u8 d, .bool p, .slice A E1 c] 40)) K0 a b d p A E1 c := by rw [← hK0]; exact heap_alloc_new w _
    exact (h.below ((Below.refl _ _).alloc (Nat.le_refl _) _)).below ((Below.refl _ _).alloc (Nat.le_refl _) _)
  have hY0 : BxX (((w.alloc (.cells #[.int .u8 a, .int .u8 b, .int .u8 d, .bool p, .slice A E1 c] 40)).alloc (.cells #[.int .u8 a', .int .u8 b', .int .u8 d', .bool p', .slice A' E2 c'] 40)).alloc (.cells #[.slice B1 F1 e1] 48)) (K0 + 1) a' b' d' p' A' E2 c' := by
    have h : BxX ((w.alloc (.cells #[.int .u8 a, .int .u8 b, .int .u8 d, .bool p, .slice A E1 c] 40)).alloc (.cells #[.int .u8 a', .int .u8 b', .int .u8 d', .bool p', .slice A' E2 c'] 40)) (K0 + 1) a' b' d' p' A' E2 c' := by
      have h := heap_alloc_new (w.alloc (.cells #[.int .u8 a, .int .u8 b, .int .u8 d, .bool p, .slice A E1 c] 40)) (.cells #[.int .u8 a', .int .u8 b', .int .u8 d', .bool p', .slice A' E2 c'] 40)
      rw [World.size_alloc, hK0] at h
      exact h
    exact h.below ((Below.refl _ _).alloc (Nat.le_refl _) _)
  have hZ0 : (((w.alloc (.cells #[.int .u8 a, .int .u8 b, .int .u8 d, .bool p, .slice A E1 c] 40)).alloc (.cells #[.int .u8 a', .int .u8 b', .int .u8 d', .bool p', .slice A' E2 c'] 40)).alloc (.cells #[.slice B1 F1 e1] 48)).heap[K0 + 1 + 1]? = some (.cells #[.slice B1 F1 e1] 48) := by
    have h := heap_alloc_new ((w.alloc (.cells #[.int .u8 a, .int .u8 b, .int .u8 d, .bool p, .slice A E1 c] 40)).alloc (.cells #[.int .u8 a', .int .u8 b', .int .u8 d', .bool p', .slice A' E2 c'] 40)) (.cells #[.slice B1 F1 e1] 48)
    rw [World.size_alloc, World.size_alloc, hK0] at h
    exact h
  go_enter Try.func5, Try.ntmps5
  go_upto_region 1 with fail
  obtain ⟨W0, hW0⟩ : ∃ W0, (((w.alloc (.cells #[.int .u8 a, .int .u8 b, .int .u8 d, .bool p, .slice A E1 c] 40)).alloc (.cells #[.int .u8 a', .int .u8 b', .int .u8 d', .bool p', .slice A' E2 c'] 40)).alloc (.cells #[.slice B1 F1 e1] 48)) = W0 := ⟨_, rfl⟩
  rw [hW0] at hB0 hX0 hY0 hZ0
  try rw [hW0]
  try rw [hK0]
  have hX1 := Lib.hid (hX0.far (G := K0 + 1) (k := 1) (by omega) (.int .u8 b))
  have hY1 := Lib.hid (hY0.setB b)
  have hZ1 : Hid ((W0.setCell ⟨K0 + 1, 1, none⟩ (.int .u8 b)).heap[K0 + 1 + 1]? = some (.cells #[.slice B1 F1 e1] 48)) := (Below.heap_setCell _ _ _ _ (show K0 + 1 + 1 ≠ K0 + 1 by omega)).trans hZ0
  have hB1 : Hid (Below w.heap.size w (W0.setCell ⟨K0 + 1, 1, none⟩ (.int .u8 b))) := hB0.setCell (p := ⟨K0 + 1, 1, none⟩) (by show w.heap.size ≤ K0 + 1; omega) _
  obtain ⟨a0, a1, a2, a3, a4⟩ := hX0.cells
  obtain ⟨b0, b1, b2, b3, b4⟩ := hY0.cells
  have bf := hY0.frozen 1
  clear hW0 hK0 hB0 hZ0
  go_upto_region 2 with fail
  obtain ⟨W1, hW1⟩ : ∃ W1, W0.setCell ⟨K0 + 1, 1, none⟩ (.int .u8 b) = W1 := ⟨_, rfl⟩
  rw [hW1] at hX1 hY1 hZ1 hB1
  try rw [hW1]
  clear hW1 a0 a1 a2 a3 a4 b0 b1 b2 b3 b4 bf hX0 hY0
  go_cut [7, 8] from 20 to 99 (fun u v wx => ∃ (G H : Nat) (R S : Option Addr) (c1 c2 : Nat), u = .pointer (some ⟨G, 0, none⟩) ∧ v = .pointer (some ⟨H, 0, none⟩) ∧ Hid (TwR W1 M.r N.r G H R S n n' c1 c2 i o i o' wx))
  case first =>
    refine two_boxes (w4 := W1) (t0 := 20) (t1 := 21) (t2 := 22) (t3 := 23) (t4 := 7) (t5 := 8) (vA := .agg #[.int .u8 a, .int .u8 b, .int .u8 d, .bool p, .slice A E1 c]) (vB := .agg #[.int .u8 a', .int .u8 b, .int .u8 d', .bool p', .slice A' E2 c']) (i := i) (o := o) (i' := i) (o' := o') (n := n) (m := n') (ra := M.r) (rb := N.r) (he := rfl) (hm := by kernel_rfl) (hb := by kernel_rfl) (hn := by kernel_rfl) (hd := ⟨rfl, rfl, rfl, rfl, rfl, rfl, rfl, rfl⟩) (hg := ⟨rfl, rfl, rfl, rfl, rfl, rfl, rfl, rfl⟩) (hnd := by decide) (hlt := fun t ht => ?lt) (hw := Below.refl _ _) (k0 := fun x w hb hf => loadX_yields rfl (hf 3 (by decide) (by decide) (by decide) (by decide) (by decide) (by decide)) (hX1.out.below hb)) (k2 := fun x w hb hf => loadX_yields rfl (hf 4 (by decide) (by decide) (by decide) (by decide) (by decide) (by decide)) (hY1.out.below hb)) (k1 := fun x wr hb hv => ?k1) (k3 := fun x wr hb hv => ?k3) (k4 := rfl) (k5 := rfl) (k6 := rfl) (k7 := rfl) (hend := fun G H R S c1 c2 wx hR => ?ends)
    case lt =>
      have h30 : t ≤ 23 := by simp at ht; omega
      show t < 100
      omega
    case k1 =>
      have hv' : x.tmps[20]?.getD undef = .agg #[.int .u8 a, .int .u8 b, .int .u8 d, .bool p, .slice A E1 c] := by simpa using hv
      unfold yieldsM
      simp [go_sem, hv']
      refine (CM _ (HR.out.below (below_next hB1.out hb))).mono ?_
      rintro e w' ⟨B, k9, vs, rfl, hB, hbl⟩
      exact ⟨_, rfl, B, k9, rfl, ⟨_, vs, hB.out⟩, hbl⟩
    case k3 =>
      have hv' : x.tmps[22]?.getD undef = .agg #[.int .u8 a', .int .u8 b, .int .u8 d', .bool p', .slice A' E2 c'] := by simpa using hv
      unfold yieldsM
      simp [go_sem, hv']
      refine (CN _ (HR'.out.below (below_next hB1.out hb))).mono ?_
      rintro e w' ⟨B, k9, vs, rfl, hB, hbl⟩
      exact ⟨_, rfl, B, k9, rfl, ⟨_, vs, hB.out⟩, hbl⟩
    case ends =>
      simp [Act.put]
      go_wp2_with fail
      go_meet
      exact ⟨G, H, R, S, c1, c2, rfl, rfl, ⟨hR.ne, hR.bg, hR.bh, hR.ra, hR.rb, hR.lo, hR.bel⟩⟩
  case rest =>
  obtain ⟨G, H, R, S, c1, c2, rfl, rfl, hS⟩ := hcut
  obtain ⟨w2, hw2⟩ : ∃ x, x = wc := ⟨_, rfl⟩
  rw [← hw2] at hS ⊢
  clear hw2
  have s1 : MT w w2 [] := MT.next (MT.next MT.start hB1.out) hS.out.bel
  obtain ⟨_, _, hra⟩ := hS.out.ra
  obtain ⟨_, _, hrb⟩ := hS.out.rb
  have hz2 : w2.heap[K0 + 1 + 1]? = some (.cells #[.slice B1 F1 e1] 48) := (hS.out.bel.block _ (heap_lt hZ1.out)).trans hZ1.out
  have s2 := MK.putB (MK.putB (MK.putR (MK.putR s1 hra.two) hrb.two) hS.out.bg) hS.out.bh
  -- 0: H, 1: G, 2: N.r, 3: M.r
  have z0 : w2.cell? ⟨K0 + 1 + 1, 0, none⟩ = some (.slice B1 F1 e1) := by rw [cell_of_row _ _ _ _ _ _ hz2]; rfl
  clear s1 hra hrb hS hX1 hY1 hZ1 hB1 CM CN HR HR' hz2
  obtain ⟨m0, m1, m2⟩ := BxM.cells (MK.get s2 1 rfl)
  go_wp2_with fail
  clear m0 m1 m2 z0
  refine (HCW.out _ (HR8.out.below s2.2.1)).mono ?_
  rintro e w3 ⟨UB, ku, qu, rfl, hku, h12, hru, hkq, hb3⟩
  have s3 := MK.putL (MT.next s2 hb3) hru
  clear s2 hb3 hru HCW HR8
  -- 0: the word, 1: H, 2: G, 3: N.r, 4: M.r

  have hii : Hid (M.i = N.i) := by show _ = _; rw [hmi.out, hmi'.out]
  obtain ⟨OO, hOO⟩ : ∃ OO : Int, (o : Int) * (o' : Int) = OO := ⟨_, rfl⟩
  have hO16 : 1 ≤ OO ∧ OO ≤ 9 := by
    have h1 : (1 : Int) * 1 ≤ (o : Int) * (o' : Int) := Int.mul_le_mul (by omega) (by omega) (by omega) (by omega)
    have h2 : (o : Int) * (o' : Int) ≤ 3 * 3 := Int.mul_le_mul (by omega) (by omega) (by omega) (by omega)
    omega
  obtain ⟨J, hJ⟩ : ∃ J, Mc.par M N = J := ⟨_, rfl⟩
  have hJm : Mc.jm (i : Int) OO n n' (Mc.parF M N) = J := by rw [← hJ, ← hOO, ← hmi.out, ← hmo.out, ← hmo'.out, ← hlen.out, ← hlen'.out]; rfl
  have HJS : Hid (Mc.JS (i : Int) OO n n' (Mc.parF M N)) := by
    have h := Mc.par_js V.out V'.out hii.out
    rw [hmi.out, hmo.out, hmo'.out, hlen.out, hlen'.out, hOO] at h
    exact h
  have VJ : Hid (Mc.Vx J) := by show Mc.Vx _; rw [← hJ]; exact Mc.par_vx V.out V'.out hii.out
  have HJM := Lib.hid hJm
  have HJI : Hid (J.i = i) := by show _ = _; rw [← hJm]; rfl
  have HJO : Hid (J.o = OO) := by show _ = _; rw [← hJm]; rfl
  have HJL : Hid (J.r.length = n * n') := by show _ = _; rw [← hJm]; exact Mc.jm_len
  obtain ⟨K, hK⟩ : ∃ K, (Mc.ord J).length = K := ⟨_, rfl⟩
  have hK1 : 1 ≤ K := by rw [← hK]; exact Mc.vx_pos VJ.out
  have hK36 : K ≤ 36 := by
    have h1 := (Mc.vx_bf VJ.out).lenQ (Mc.vx_vq VJ.out)
    rw [← Mc.ord_lenX, hK, HJL.out] at h1
    exact Nat.le_trans h1 (Nat.mul_le_mul hn6 hn6')
  have HK := Lib.hid hK
  obtain ⟨RR, hRR⟩ : ∃ RR, (Mc.prt J (Mc.ord J)).r = RR := ⟨_, rfl⟩
  have HRR := Lib.hid hRR
  have HRL : Hid (RR.length = K) := by show _ = _; rw [← hRR, Mc.prt_len, hK]
  have VP := Lib.hid (Mc.vx_can VJ.out (by rw [HJI.out]; omega) (by rw [HJO.out]; omega) (by rw [hK]; omega)).1
  have HRW : Hid (∀ row ∈ RR, row.length ≤ 1000000) := fun row hr => by
    rw [← hRR] at hr
    have h1 := VP.out.len row hr
    have h2 := VP.out.i1
    omega
  have CU : Hid (∀ wr, RdR wr R M.r → RdR wr S N.r → Calls Try.prog 31 #[.agg #[.int .i64 i, .int .i64 o, .slice R n c1], .agg #[.int .i64 i, .int .i64 o', .slice S n' c2]] wr (JxP wr i OO K RR)) := fun wr hR hS => by
    have v1 := V.out.r1
    have v2 := V'.out.r1
    have h := parallel_any M N R S n c1 n' c2 wr hR hlen.out (by omega) (fun row hr => by have := V.out.len row hr; have := V.out.i1; omega) hS hlen'.out (by omega) (fun row hr => by have := V'.out.len row hr; have := V'.out.i1; omega)
    rw [hmi.out, hmo.out, hmi'.out, hmo'.out, hJ] at h
    refine h.mono fun e w' h => ?_
    have h3 := h.ok (k := K) (rs := RR) (pech_zero V.out V'.out hii.out (by rw [hmo.out, hmo'.out, hOO]; omega)) HRR.out HRL.out (by omega) HRW.out
    rwa [HJI.out, HJO.out] at h3
  have HOO := Lib.hid hOO
  clear hJ hJm hK hRR hOO
  obtain ⟨m0, m1, m2⟩ := BxM.cells (MK.get s3 2 rfl)
  obtain ⟨q0, q1, q2⟩ := BxM.cells (MK.get s3 1 rfl)
  go_wp2_with fail
  clear m0 m1 m2 q0 q1 q2
  refine (CU.out _ (MK.get s3 4 rfl) (MK.get s3 3 rfl)).mono ?_
  rintro e w4 ⟨P, rfl, hx, hb4⟩
  have s4 := MK.putXJ (MT.next s3 hb4) hx
  clear s3 hb4 hx CU
  have s5 := MK.putB (g := w4.heap.size) (MT.alloc s4 (.cells #[.int .i64 i, .int .i64 OO, .slice (some ⟨P, 0, none⟩) K K] 24)) (heap_alloc_new w4 _)
  clear s4
  go_upto_region 5 with fail
  obtain ⟨w5, hw⟩ : ∃ q, w4.alloc (.cells #[.int .i64 i, .int .i64 OO, .slice (some ⟨P, 0, none⟩) K K] 24) = q := ⟨_, rfl⟩
  obtain ⟨T, hT⟩ : ∃ T, w4.heap.size = T := ⟨_, rfl⟩
  rw [hw, hT] at s5
  try rw [hw]
  try rw [hT]
  clear hw hT
  -- 0: T, 1: rows of P, 2: the word, 3: H, 4: G, 5: N.r, 6: M.r
  have S5 := Lib.hid s5
  have HS : Hid (∀ W : World, Below w5.heap.size w5 W → (W.cell? ⟨T, 0, none⟩ = some (.int .i64 i) ∧ W.cell? ⟨T, 1, none⟩ = some (.int .i64 OO) ∧ W.cell? ⟨T, 2, none⟩ = some (.slice (some ⟨P, 0, none⟩) K K) ∧ W.cell? ⟨G, 0, none⟩ = some (.int .i64 i) ∧ W.cell? ⟨G, 1, none⟩ = some (.int .i64 o) ∧ W.cell? ⟨G, 2, none⟩ = some (.slice R n c1) ∧ W.cell? ⟨H, 0, none⟩ = some (.int .i64 i) ∧ W.cell? ⟨H, 1, none⟩ = some (.int .i64 o') ∧ W.cell? ⟨H, 2, none⟩ = some (.slice S n' c2))) := fun W hb => by
    have s6 := MT.next S5.out hb
    obtain ⟨a0, a1, a2⟩ := BxM.cells (MK.get s6 0 rfl)
    obtain ⟨b0, b1, b2⟩ := BxM.cells (MK.get s6 4 rfl)
    obtain ⟨d0, d1, d2⟩ := BxM.cells (MK.get s6 3 rfl)
    exact ⟨a0, a1, a2, b0, b1, b2, d0, d1, d2⟩
  clear s5
  have CJ : Hid (∀ wr, Below w5.heap.size w5 wr → Calls Try.prog 24 #[.agg #[.int .i64 i, .int .i64 OO, .slice (some ⟨P, 0, none⟩) K K], .agg #[.int .i64 i, .int .i64 o, .slice R n c1], .agg #[.int .i64 i, .int .i64 o', .slice S n' c2], .int .i64 1] wr fun e w' => e = .returned (.int .i64 1) ∧ Below wr.heap.size wr w') := fun wr hb =>
    rjoint_par (Mc.parF M N) i n n' K o i OO o' R S (some ⟨P, 0, none⟩) c1 c2 K wr hi1 (by omega) (by omega) (by omega) hn1 (by omega) hn1' (by omega) HJS.out HOO.out
      (fun wr' hb' s t k hs ht hk => by
        have s6 := MT.next S5.out (below_next hb hb')
        have h := rstep_par M N V.out V'.out hii.out R S n n' c1 c2 s t k wr' (MK.get s6 6 rfl) (MK.get s6 5 rfl) hlen.out hlen'.out hs ht (by rw [hmi.out]; omega)
        rwa [hmi.out, hmo.out, hmi'.out, hmo'.out] at h)
      (by rw [HJM.out]; exact HK.out) (by omega) (by rw [HJM.out, HRR.out]; exact Ex.rd (MK.get (MT.next S5.out hb) 1 rfl))
  obtain ⟨a0, a1, a2, b0, b1, b2, d0, d1, d2⟩ := HS.out _ (Below.refl _ _)
  have hkz : ((K : Int) == 0) = false := by rw [beq_eq_false_iff_ne]; omega
  go_wp2_with fail
  refine (CJ.out _ (Below.refl _ _)).mono ?_
  rintro e w6 ⟨rfl, hb6⟩
  have HB6 := Lib.hid hb6
  clear hb6 a0 a1 a2 b0 b1 b2 d0 d1 d2 CJ hkz
  obtain ⟨a0, a1, a2, b0, b1, b2, d0, d1, d2⟩ := HS.out _ HB6.out
  go_wp2_with fail
  refine (clipped_yes i OO RR P K _ (MK.get (MT.next S5.out HB6.out) 1 rfl)).mono ?_
  rintro e w7 ⟨rfl, hb7⟩
  have HB7 := Lib.hid (below_next HB6.out hb7)
  clear hb7 HB6 a0 a1 a2 b0 b1 b2 d0 d1 d2
  obtain ⟨a0, a1, a2, b0, b1, b2, d0, d1, d2⟩ := HS.out _ HB7.out
  have CR : ∀ (m9 : Ma) (o9 : Int) (A9 : Option Addr) (n9 d9 : Nat), Mc.Val m9 → m9.i = i → m9.o = o9 → m9.r.length = n9 → 1 ≤ n9 → (∀ wr, Below w5.heap.size w5 wr → RdR wr A9 m9.r) → Hid (∀ wr, Below w5.heap.size w5 wr → Calls Try.prog 26 #[.agg #[.int .i64 i, .int .i64 o9, .slice A9 n9 d9], .int .i64 0, .slice UB ku qu] wr fun e w' => ∃ B q, e = .returned (.slice B ku q) ∧ Rd w' B (Mc.run m9 0 Y) ∧ Below wr.heap.size wr w') := fun m9 o9 A9 n9 d9 v9 h1 h2 h3 h4 h5 wr hb => by
    exact rrun_atJ m9 i o9 A9 n9 d9 wr 0 UB ku qu Y v9 h1 h2 h3 hku.out (h5 wr hb) (MK.get (MT.next S5.out hb) 2 rfl) (Or.inr ⟨by omega, by omega⟩) (HW.out.of_i (by rw [hmi.out, h1])) (by omega)
  have CR1 := CR M o R n c1 V.out hmi.out hmo.out hlen.out hn1 (fun wr hb => MK.get (MT.next S5.out hb) 6 rfl)
  have CR2 := CR N o' S n' c2 V'.out hmi'.out hmo'.out hlen'.out hn1' (fun wr hb => MK.get (MT.next S5.out hb) 5 rfl)
  have CR3 := CR (Mc.prt J (Mc.ord J)) OO (some ⟨P, 0, none⟩) K K VP.out HJI.out HJO.out (by rw [HRR.out]; exact HRL.out) hK1 (fun wr hb => by rw [HRR.out]; exact Ex.rd (MK.get (MT.next S5.out hb) 1 rfl))
  have HD : Hid (Below w7.heap.size w7 w7.drew) := (Below.refl _ _).drew
  have s0 := HS.out _ HB7.out
  have sD := HS.out _ (below_next HB7.out HD.out)
  clear CR
  go_upto_region 7 with fail
  go_region_held3 (fun W => (W.cell? ⟨T, 0, none⟩ = some (.int .i64 i) ∧ W.cell? ⟨T, 1, none⟩ = some (.int .i64 OO) ∧ W.cell? ⟨T, 2, none⟩ = some (.slice (some ⟨P, 0, none⟩) K K) ∧ W.cell? ⟨G, 0, none⟩ = some (.int .i64 i) ∧ W.cell? ⟨G, 1, none⟩ = some (.int .i64 o) ∧ W.cell? ⟨G, 2, none⟩ = some (.slice R n c1) ∧ W.cell? ⟨H, 0, none⟩ = some (.int .i64 i) ∧ W.cell? ⟨H, 1, none⟩ = some (.int .i64 o') ∧ W.cell? ⟨H, 2, none⟩ = some (.slice S n' c2)))
    (first | (with_reducible exact s3) | (with_reducible exact s2) | (with_reducible exact s1) | (with_reducible exact s0) | (with_reducible exact sD) | go_keep)
    (first
      | (go_at_call 26
         (with_reducible refine (CR1.out _ (below_next HB7.out HD.out)).mono ?_)
         rintro e z1 ⟨B7, e7, rfl, hr7, hz1⟩
         have t1 := Lib.hid (below_next HD.out hz1)
         have s1 := HS.out _ (below_next HB7.out t1.out)
         dsimp only)
      | (go_at_call 26
         (with_reducible refine (CR2.out _ (below_next HB7.out t1.out)).mono ?_)
         rintro e z2 ⟨B8, e8, rfl, hr8, hz2⟩
         have t2 := Lib.hid (below_next t1.out hz2)
         have s2 := HS.out _ (below_next HB7.out t2.out)
         dsimp only)
      | (go_at_call 26
         (with_reducible refine (CR3.out _ (below_next HB7.out t2.out)).mono ?_)
         rintro e z3 ⟨B9, e9, rfl, hr9, hz3⟩
         have t3 := Lib.hid (below_next t2.out hz3)
         have s3 := HS.out _ (below_next HB7.out t3.out)
         dsimp only)
      | fail)
  have R7 := Lib.hid ((hr7.below hz2).below hz3)
  have R8 := Lib.hid (hr8.below hz3)
  have R9 := Lib.hid hr9
  have HB9 := Lib.hid (below_next HB7.out t3.out)
  have HZR : Hid (Mc.run (Mc.prt J (Mc.ord J)) 0 Y = List.zipWith (fun x y => if 0 ≤ x ∧ 0 ≤ y then x * (o' : Int) + y else -1) (Mc.run M 0 Y) (Mc.run N 0 Y)) := by
    show _ = _
    have h1 := Mc.vx_run VJ.out (w := Y) (HW.out.of_i (by rw [hmi.out, HJI.out]))
    have h2 := Mc.par_run V.out V'.out hii.out Y 0 0 (by rw [hlen.out]; omega) (by rw [hlen'.out]; omega) HW.out
    have hJe : Mc.par M N = J := by rw [← HJM.out, ← HOO.out, ← hmi.out, ← hmo.out, ← hmo'.out, ← hlen.out, ← hlen'.out]; rfl
    rw [hJe, Nat.zero_mul, hmo'.out] at h2
    rw [h1]
    exact h2
  clear s0 s1 s2 s3 sD a0 a1 a2 b0 b1 b2 d0 d1 d2 t1 t2 t3 hz1 hz2 hz3 hr7 hr8 hr9 CR1 CR2 CR3 HD HB7
  go_wp2_with fail
  go_loopw [15] (fun v wr => ∃ k : Nat, k ≤ ku ∧ v = .int .i64 k ∧ Hid (Below z3.heap.size z3 wr)) (fun v _ => ku - (intOf v).toNat)
  case atStart => exact ⟨0, Nat.zero_le _, rfl, Below.refl _ _⟩
  case round =>
    obtain ⟨k, hk, rfl, hb⟩ := hrel
    by_cases hlt : k < ku
    · have hlti : (k : Int) < ku := by omega
      have hl1 : k < (Mc.run M 0 Y).length := by rw [Mc.run_len, hku.out]; exact hlt
      have hl2 : k < (Mc.run N 0 Y).length := by rw [Mc.run_len, hku.out]; exact hlt
      obtain ⟨g7, o7, x, rfl, _, x0, hx⟩ := rd_nth (R7.out.below hb.out) hl1
      obtain ⟨g8, o8, y, rfl, _, y0, hy⟩ := rd_nth (R8.out.below hb.out) hl2
      obtain ⟨g9, o9, z, rfl, _, z0, hz⟩ := rd_nth (R9.out.below hb.out) (k := k) (by rw [Mc.run_len, hku.out]; exact hlt)
      have hze : z = if 0 ≤ x ∧ 0 ≤ y then x * (o' : Int) + y else -1 := by
        rw [HZR.out, List.getElem?_zipWith, hx, hy] at hz
        injection hz with hz
        exact hz.symm
      have hx3 := run_outJ V.out Y 0 (Or.inr ⟨by omega, by rw [hlen.out]; omega⟩) HW.out x (List.mem_of_getElem? hx)
      have hy3 := run_outJ V'.out Y 0 (Or.inr ⟨by omega, by rw [hlen'.out]; omega⟩) HW'.out y (List.mem_of_getElem? hy)
      rw [hmo.out] at hx3
      rw [hmo'.out] at hy3
      clear hx hy hz hl1 hl2
      obtain ⟨_, _, _, _, _, _, d0, d1, d2⟩ := HS.out _ (below_next HB9.out hb.out)
      by_cases hx0 : 0 ≤ x
      · have hx0d : decide (0 ≤ x) = true := decide_eq_true hx0
        by_cases hy0 : 0 ≤ y
        · have hy0d : decide (0 ≤ y) = true := decide_eq_true hy0
          have hzz : z = x * (o' : Int) + y := by rw [hze, if_pos ⟨hx0, hy0⟩]
          have hm : 0 ≤ x * (o' : Int) ∧ x * (o' : Int) ≤ 9 := by
            have h1 : 0 ≤ x * (o' : Int) := Int.mul_nonneg hx0 (by omega)
            have h2 : x * (o' : Int) ≤ 3 * 3 := Int.mul_le_mul (by omega) (by omega) (by omega) (by omega)
            omega
          have hw1 : IntKind.i64.wrap (x * (o' : Int)) = x * (o' : Int) := IntWalk.i64_in _ (by omega)
          have hw2 : IntKind.i64.wrap (x * (o' : Int) + y) = z := by rw [hzz]; exact IntWalk.i64_in _ (by omega)
          have hzn : (z != z) = false := by simp
          clear hze hzz
          go_wp2_with fail
          go_quiet (fail)
          obtain ⟨W3, hW3⟩ : ∃ W3, wr.drewN nq = W3 := ⟨_, rfl⟩
          have hbd : Below wr.heap.size wr W3 := by rw [← hW3]; exact below_drewN' (Below.refl _ _) _
          rw [hW3]
          have HB := Lib.hid (below_next hb.out hbd)
          have z0' : W3.cell? ⟨g9, o9 + k, none⟩ = some (.int .i64 z) := by rw [← hW3]; exact z0
          clear hW3 hbd x0 y0 z0 d0 d1 d2
          go_wp2_with fail
          go_roundw
          case rel => exact ⟨k + 1, by omega, by go_num, HB⟩
          case measure => simp [intOf]; omega
        · have hy0d : decide (0 ≤ y) = false := decide_eq_false hy0
          obtain rfl : z = -1 := by rw [hze, if_neg (fun h => hy0 h.2)]
          clear hze
          go_wp2_with fail
          clear x0 y0 z0 d0 d1 d2
          go_roundw
          case rel => exact ⟨k + 1, by omega, by go_num, hb⟩
          case measure => simp [intOf]; omega
      · have hx0d : decide (0 ≤ x) = false := decide_eq_false hx0
        obtain rfl : z = -1 := by rw [hze, if_neg (fun h => hx0 h.1)]
        clear hze
        go_wp2_with fail
        clear x0 y0 z0 d0 d1 d2
        go_roundw
        case rel => exact ⟨k + 1, by omega, by go_num, hb⟩
        case measure => simp [intOf]; omega
    · have hlti : ¬ (k : Int) < ku := by omega
      go_wp2_with fail
      refine (jlives_walk _).mono ?_
      rintro e w10 ⟨rfl, hb10⟩
      have hfin := Lib.hid (MT.next S5.out (below_next HB9.out (below_next hb.out hb10))).2.1
      clear hb10
      go_wp2
      go_ret
      exact ⟨rfl, hfin.out⟩
end Go.Proofs.Ytcbmohcjmofomaa
