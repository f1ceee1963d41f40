/-
  Contract: the program's walk over pairs, and its iterator. No statement is proved here.
-/
import Derived.Test.YtgafpmgdpigliaaEa0
import Derived.Test.YtgafpmgdpigliaaSMdZ
import Derived.Test.YtgafpmgdpigliaaMcT
import Derived.BigQuiet
import Derived.Deep.RegionHeld3
namespace Go.Proofs.Ytgafpmgdpigliaa
open Go.RowKit
open Mc (Ed Ma Wv)

theorem ewalk_any (i o i2 o2 : Int) (A B : Option Addr) (n c n2 c2 : Nat) (w : World) :
    Calls Try.prog 39 #[.agg #[.int .i64 i, .int .i64 o, .slice A n c], .agg #[.int .i64 i2, .int .i64 o2, .slice B n2 c2]] w fun e w' => e = .returned (.func (.func 74) #[] #[.pointer (some ⟨w.heap.size, 0, none⟩), .pointer (some ⟨w.heap.size + 1, 0, none⟩)]) ∧
      w' = boxM (boxM w i o A n c) i2 o2 B n2 c2 := by
  go_enter Try.func39, Try.ntmps39
  go_wp2
  go_ret
  exact ⟨rfl, rfl⟩

theorem bfG_atE {m : Ma} {Q : List Wv} {p f : Nat} {x : Wv} (h : Q[p]? = some x) : Mc.bfG m (f + 1) p Q = Mc.bfG m f (p + 1) (Mc.bfR m x m.i.toNat Q) := by
  rw [Mc.bfG, h]
theorem bfG_endE {m : Ma} {Q : List Wv} (f : Nat) : Mc.bfG m f Q.length Q = Q := by
  cases f with
  | zero => rfl
  | succ f => rw [Mc.bfG, List.getElem?_eq_none (Nat.le_refl _)]
set_option maxRecDepth 100000 in
set_option maxHeartbeats 8000000 in
theorem ewalk1_gives (mm : Nat) (a b : Ma) (va : Mc.Val a) (vb : Mc.Val b) (hi : a.i = b.i) (ga gb : Nat) (A B : Option Addr) (d d2 na nb : Nat) (hna : a.r.length = na) (hnb : b.r.length = nb) (D : Nat → Prop) (w0 w : World) (hra : RdR w0 A a.r) (hrb : RdR w0 B b.r) (h0w : Below w0.heap.size w0 w) (hba : BxM w ga a.i a.o A na d) (hbb : BxM w gb b.i b.o B nb d2)
    (hga : ¬ D ga) (hgb : ¬ D gb) (hD0 : ∀ b, D b → w0.heap.size ≤ b) (hDl : ∀ b, D b → b < w.heap.size) :
    GivesE mm nb 74 #[.pointer (some ⟨ga, 0, none⟩), .pointer (some ⟨gb, 0, none⟩)] (Mc.wk (Mc.pr a b) 0) D w := by
  intro l J Jx W hW hJ hJx hY hJ0
  have hgal : ga < w.heap.size := heap_lt hba
  have hgbl : gb < w.heap.size := heap_lt hbb
  have SS : Hid (∀ (wr : World), KCe D w.heap.size W wr → ∀ b o v, b < w0.heap.size → w0.cell? ⟨b, o, none⟩ = some v → wr.cell? ⟨b, o, none⟩ = some v) := fun wr hk b o v hb hv =>
    hk.cell (fun h => by have := hD0 b h; omega) (by have := h0w.size; omega) ((hW.cell (p := ⟨b, o, none⟩) (by have := h0w.size; show b < _; omega)).trans ((h0w.cell (p := ⟨b, o, none⟩) hb).trans hv))
  have MM : Hid (∀ (wr : World), KCe D w.heap.size W wr → wr.cell? ⟨ga, 2, none⟩ = some (.slice A na d) ∧ wr.cell? ⟨gb, 2, none⟩ = some (.slice B nb d2)) := fun wr hk =>
    ⟨hk.cell hga hgal ((hW.cell (p := ⟨ga, 2, none⟩) hgal).trans hba.cells.2.2), hk.cell hgb hgbl ((hW.cell (p := ⟨gb, 2, none⟩) hgbl).trans hbb.cells.2.2)⟩
  have hDW : ∀ b, D b → b < W.heap.size := fun b h => by have := hDl b h; have := hW.size; omega
  have hgaW : ga < W.heap.size := by have := hW.size; omega
  have hgbW : gb < W.heap.size := by have := hW.size; omega
  have JJ := Lib.hid hJ
  have JX := Lib.hid hJx
  have HVA := Lib.hid va
  have HVB := Lib.hid vb
  have HI := Lib.hid hi
  have HNA := Lib.hid hna
  have HNB := Lib.hid hnb
  have HQV := Lib.hid (Mc.pr_vq va vb hi)
  have hna64 : na ≤ 64 := by have := va.r1; omega
  have hnb64 : nb ≤ 64 := by have := vb.r1; omega
  have hna0 : 1 ≤ na := by have := va.r0; omega
  have hnb0 : 1 ≤ nb := by have := vb.r0; omega
  have hi16 := va.i1
  have hi1 := va.i0
  have DW := Lib.hid hDW
  have hPL : Hid ((Mc.pr a b).r.length = na * nb) := by show _ = _; rw [Mc.pr_len, hna, hnb]
  have hab : na * nb ≤ 4096 := Nat.mul_le_mul hna64 hnb64
  have hab0 : 0 < na * nb := Nat.mul_pos hna0 hnb0
  have BS := Lib.hid (Mc.BF.startQ HQV.out (s := 0) ⟨by omega, by rw [hPL.out]; omega⟩)
  obtain ⟨L, hL⟩ : ∃ L, Mc.wk (Mc.pr a b) 0 = L := ⟨_, rfl⟩
  have HL := Lib.hid hL
  rw [hL] at hY ⊢
  have YY := Lib.hid hY
  clear hY hL hJ hJx hW hba hbb hD0 hDl h0w hgal hgbl hga hgb hDW va vb hi hna hnb
  have hmm := @run_makeMap Try.prog
  obtain ⟨wp, hput, hps, hpg⟩ := (PSet.made W).put (by unfold maxLen; omega) (x := 0) (y := 0) ⟨⟨by simp, by simp⟩, ⟨by simp, by simp⟩⟩
  refine callsIn_of_wp Try.func74 rfl trivial ?_ rfl
  simp only [Try.ntmps74, List.size_toArray, List.length_cons, List.length_nil, Nat.reduceAdd, Nat.reduceSub, Array.replicate_succ, Array.replicate_zero, List.push_toArray, List.append_toArray, List.nil_append, List.cons_append]
  gi_wp2_with fail
  obtain ⟨G, hG⟩ : ∃ G, wp.heap.size = G := ⟨_, rfl⟩
  obtain ⟨W3, hW3⟩ : ∃ W3, (wp.alloc (.cells #[.int .i64 0, .int .i64 0, .pointer none, .int .i64 0, .int .i64 0] 86)).alloc (.cells #[.pointer (some ⟨G, 0, none⟩)] 83) = W3 := ⟨_, rfl⟩
  have hWG : W.heap.size < G := by have := hpg.size; rw [hG] at this; simp at this; omega
  have hbp : Below W.heap.size W wp := ((Below.refl _ _).alloc (Nat.le_refl _) _).grown hpg (by simp) (fun j hj => by cases hj; exact Nat.le_refl _)
  have hb3 : Below G wp W3 := by rw [← hW3, ← hG]; exact ((Below.refl _ _).alloc (Nat.le_refl _) _).alloc (by simp) _
  have hb03 : Below W.heap.size W W3 := hbp.trans (hb3.mono (by omega))
  have hstart : Hid (Wqe D w.heap.size W W.heap.size nb [((0 : Int), [])] (.slice (some ⟨G + 1, 0, none⟩) 1 1) W3) := by
    refine ⟨KCe.of_below hb03, ?_, Nat.le_refl _, ⟨[G], rfl, ?_, ?_⟩, DW.out⟩
    · have h1 := hps.below (w' := W3) (by rw [hG]; exact hb3)
      have e : (pq nb ((0 : Int), [])) = (0, 0) := by simp [pq]
      simpa [e] using h1
    · refine ⟨rfl, .inr ⟨G + 1, 1, #[.pointer (some ⟨G, 0, none⟩)], rfl, by omega, ?_, Nat.le_refl _, by unfold maxLen; omega, rfl, rfl⟩⟩
      rw [← hW3, ← hG]
      have := heap_alloc_new (wp.alloc (.cells #[.int .i64 0, .int .i64 0, .pointer none, .int .i64 0, .int .i64 0] 86)) (.cells #[.pointer (some ⟨wp.heap.size, 0, none⟩)] 83)
      rwa [World.size_alloc] at this
    · intro k g x h1 h2
      match k, h1, h2 with
      | 0, h1, h2 =>
        simp at h1 h2
        subst h1 h2
        refine ArP.start (i := 0) (by show W.heap.size ≤ G; omega) ?_
        show W3.heap[G]? = _
        rw [← hW3, ← hG]
        exact (Below.heap_alloc _ _ _ (by simp)).trans (heap_alloc_new wp _)
      | k + 1, h1, h2 => simp at h1
  have hJ3 : Hid (J 0 W3) := JJ.out _ _ _ hJ0 (KIe.of_below hb03 (Nat.le_refl _))
  simp only [hG, hW3]
  clear hW3 hG hput hps hpg hbp hb3 hb03 hWG hJ0 hmm
  gi_loopw [5, 6] (fun v z wr => ∃ (p : Nat) (Q : List Wv) (gq q cq fu : Nat), z = .int .i64 p ∧ v = .slice (some ⟨gq, 0, none⟩) q cq ∧ p ≤ q ∧ q ≤ 4096 ∧ 1 ≤ q ∧ fu + p = na * nb + 1 ∧ Hid (Q.length = q) ∧ Hid (Mc.bfG (Mc.pr a b) fu p Q = L) ∧ Hid (Mc.BF (Mc.pr a b) 0 Q p 0) ∧ Hid (J p wr) ∧ Hid (Wqe D w.heap.size W W.heap.size nb Q (.slice (some ⟨gq, 0, none⟩) q cq) wr)) (fun _ z _ => 4097 - (intOf z).toNat)
  case atStart => exact ⟨0, [((0 : Int), [])], _, 1, 1, na * nb + 1, rfl, rfl, by omega, by omega, by omega, by omega, rfl, (by have := HL.out; unfold Mc.wk at this; rw [hPL.out] at this; exact this), BS.out, hJ3, hstart⟩
  case round =>
    obtain ⟨p, Q, gq, q, cq, fu, rfl, rfl, hpq, hq64, hq1, hfu, hQ, hG, hB, hj, hW⟩ := hrel
    clear hstart hJ3 BS
    by_cases hlt : p < q
    · obtain ⟨⟨xs, xw⟩, hx⟩ : ∃ x, Q[p]? = some x := ⟨_, List.getElem?_eq_getElem (by rw [hQ.out]; exact hlt)⟩
      obtain ⟨⟨hx0, hx1⟩, hxl⟩ := hB.out.lw _ (List.mem_of_getElem? hx)
      simp only at hx0 hx1 hxl
      rw [hPL.out] at hx1
      obtain ⟨k, rfl⟩ := Int.eq_ofNat_of_zero_le hx0
      obtain ⟨s, t, hs, ht, hkst⟩ := Mc.cd_inv (n := nb) (p := na) (k := k) (by omega)
      have hk1 : ((k : Nat) : Int) / (nb : Nat) = s := by rw [hkst, ← Int.natCast_ediv, Mc.cd_div ht]
      have hk2 : ((k : Nat) : Int) % (nb : Nat) = t := by rw [hkst, ← Int.natCast_emod, Mc.cd_mod ht]
      obtain ⟨gs, hqo⟩ := hW.out.qo
      obtain ⟨ar, _, c0, hAr⟩ := hqo.at_ hx (g := gq) (c := cq) (by rw [hQ.out])
      have hLp : Hid (L[p]? = some ((k : Int), xw)) := by
        show _ = _
        rw [← hG.out]
        exact Mc.pre_at (Mc.bfG_pre (Mc.pr a b) fu p Q) hx
      have hArD : ArD D wr ar nb ((k : Int), xw) := hAr.mono (fun b hb h => by have := DW.out b h; omega) (fun _ _ _ h => h)
      obtain ⟨fn, tmps, assign, body, hyl, hR⟩ := YY.out p ((k : Int), xw) ar _ hLp.out hj.out hArD
      simp only [arv] at hyl
      have HX := Lib.hid hx
      have hsh := hxl.shortQ HQV.out ⟨by omega, by rw [hPL.out]; omega⟩ (by omega)
      rw [hPL.out] at hsh
      obtain ⟨xl, hxw⟩ : ∃ xl, xw.length = xl := ⟨_, rfl⟩
      have HXL := Lib.hid hxw
      have hxl4 : xl < 4096 := by omega
      clear hxw hsh
      have HWD := Lib.hid hxl.wd
      have HAR := Lib.hid hAr
      clear hx hx0 hxl hqo hArD hAr
      gi_wp2_with fail
      refine ⟨(fun h => by simp [Fence.wide] at h), hR.mono ?_⟩
      rintro e W3 (⟨rfl, hJ3, hk3⟩ | ⟨rfl, hJx3⟩)
      · have hW3 := Lib.hid (hW.out.keep hk3)
        have hA3 : Hid (ArP (fun b => W.heap.size ≤ b) W3 ar nb ((k : Int), xw)) := HAR.out.mono (fun _ h => h) (fun b _ hb ho => hk3.2 b _ (fun h => by have := DW.out b h; omega) (Or.inr rfl) ho rfl)
        have HJ3 := Lib.hid hJ3
        clear hyl hR c0 HAR hJ3 hk3 hW hj
        obtain ⟨q0, _⟩ := MM.out W3 hW3.out.kc
        obtain ⟨b1, off1, R1, d1, n1, row1, rfl, hb1, hcw1, _, _, _, hpw1, hln1, hqr1⟩ := hra.at_ (show s < a.r.length by rw [HNA.out]; exact hs)
        have r1 := SS.out W3 hW3.out.kc b1 (off1 + s) _ hb1 hcw1
        have hn1 : Hid ((n1 : Int) = a.i) := by show _ = _; rw [← hln1.out]; exact HVA.out.len row1 (List.mem_of_getElem? hqr1.out)
        have hn16 : n1 ≤ 16 := by have := hn1.out; omega
        obtain ⟨_, ap, ai, hab1⟩ := hA3.out
        obtain ⟨a0, a1, a2, a3, a4⟩ := hab1.cells
        simp only [hk1, hk2] at a0 a1
        have hs1 : (s : Int) < na := by omega
        have ht1 : (t : Int) < nb := by omega
        clear hab1 a1 a2 a3 a4 hcw1
        gi_wp2
        refine wpIn_wide.2 ?_
        go_quiet (fail)
        obtain ⟨W4, hW4⟩ : ∃ W4, W3.drewN nq = W4 := ⟨_, rfl⟩
        have hb4 : Below W3.heap.size W3 W4 := by rw [← hW4]; exact below_drewN' (Below.refl _ _) _
        rw [hW4]
        have HW4 := Lib.hid (hW3.out.below hb4)
        have HA4 : Hid (ArP (fun b => W.heap.size ≤ b) W4 ar nb ((k : Int), xw)) := hA3.out.kpE (KpE.of_below hb4)
        have HJ4 := Lib.hid (JJ.out _ _ _ HJ3.out (KIe.of_below hb4 hW3.out.kc.1))
        -- what may be read of the second machine, in every world
        obtain ⟨b2, off2, R2, d2', n2, row2, hBe, hb2, hcw2, _, _, _, hpw2, hln2, hqr2⟩ := hrb.at_ (show t < b.r.length by rw [HNB.out]; exact ht)
        subst hBe
        have hn2 : n2 = n1 := by
          have h1 := HVB.out.len row2 (List.mem_of_getElem? hqr2.out)
          rw [hln2.out, ← HI.out, ← hn1.out] at h1
          omega
        subst hn2
        have RB : Hid (∀ wx, KCe D w.heap.size W wx → wx.cell? ⟨gb, 2, none⟩ = some (.slice (some ⟨b2, off2, none⟩) nb d2) ∧ wx.cell? ⟨b2, off2 + t, none⟩ = some (.slice R2 n2 d2')) := fun wx hk => ⟨(MM.out wx hk).2, SS.out wx hk b2 (off2 + t) _ hb2 hcw2⟩
        clear hW3 hA3 HJ3 q0 r1 a0 hb4 hW4 hcw2
        gi_wp2
        gi_loopw [5, 43] (fun v z wr => ∃ (j : Nat) (Q' : List Wv) (gq q cq : Nat), z = .int .i64 j ∧ v = .slice (some ⟨gq, 0, none⟩) q cq ∧ j ≤ n2 ∧ q ≤ 4096 ∧ 1 ≤ q ∧ Hid (Q'.length = q) ∧ Hid (Mc.bfR (Mc.pr a b) ((k : Int), xw) j Q = Q') ∧ Hid (J (p + 1) wr) ∧ Hid (Wqe D w.heap.size W W.heap.size nb Q' (.slice (some ⟨gq, 0, none⟩) q cq) wr) ∧ Hid (ArP (fun b => W.heap.size ≤ b) wr ar nb ((k : Int), xw))) (fun _ z _ => n2 - (intOf z).toNat)
        case atStart => exact ⟨0, Q, gq, q, cq, rfl, rfl, Nat.zero_le _, hq64, hq1, hQ, rfl, HJ4, HW4, HA4⟩
        case round =>
          clear HW4 HA4 HJ4
          obtain ⟨j, Q', gq', q', cq', rfl, rfl, hj, hq64', hq1', hQ', hR', hJ', hW', hA'⟩ := hrel
          by_cases hjl : j < n2
          · obtain ⟨e1, o1, ex, eo, rfl, he1, hx0, hy0, hqe1⟩ := hpw1.at_ (k := j) (by rw [hln1.out]; exact hjl)
            obtain ⟨e2, o2, fx, fo, rfl, he2, hx2, hy2, hqe2⟩ := hpw2.at_ (k := j) (by rw [hln2.out]; exact hjl)
            have x0 := SS.out wr hW'.out.kc e1 (o1 + j * 2) _ he1 hx0
            have y0 := SS.out wr hW'.out.kc e1 (o1 + j * 2 + 1) _ he1 hy0
            have hjl' : (j : Int) < n2 := by omega
            have hszx : W.heap.size ≤ wr.heap.size := hW'.out.kc.1
            have hbE : Below wr.heap.size wr (wr.alloc (.cells #[.int .i64 ex, .int .i64 eo] 27)) := (Below.refl _ _).alloc (Nat.le_refl _) _
            have hWE := hW'.out.below hbE
            have hAE : ArP (fun b => W.heap.size ≤ b) _ ar nb ((k : Int), xw) := hA'.out.kpE (KpE.of_below hbE)
            obtain ⟨r0, r1⟩ := RB.out _ hWE.kc
            have z0 := SS.out _ hWE.kc e2 (o2 + j * 2) _ he2 hx2
            have z1 := SS.out _ hWE.kc e2 (o2 + j * 2 + 1) _ he2 hy2
            obtain ⟨_, ap2, ai2, hab2⟩ := hAE
            obtain ⟨_, ap3, ai3, hab2L⟩ := hA'.out
            obtain ⟨_, a1, _, _, _⟩ := hab2.cells
            simp only [hk2] at a1
            have hbF : Below wr.heap.size wr ((wr.alloc (.cells #[.int .i64 ex, .int .i64 eo] 27)).alloc (.cells #[.int .i64 fx, .int .i64 fo] 27)) := hbE.alloc (by simp) _
            gi_wp2_with fail
            refine wpIn_wide.2 ?_
            have ne0 := World.new_ne _ _ r0
            have ne1 := World.new_ne _ _ r1
            have ne2 := World.new_ne _ _ z0
            have ne3 := World.new_ne _ _ z1
            have ne4 := World.new_ne _ _ a1
            go_region_held3 (fun w' => w'.cell? ⟨gb, 2, none⟩ = some (.slice (some ⟨b2, off2, none⟩) nb d2) ∧ w'.cell? ⟨b2, off2 + t, none⟩ = some (.slice (some ⟨e2, o2, none⟩) n2 d2') ∧ w'.cell? ⟨e2, o2 + j * 2, none⟩ = some (.int .i64 fx) ∧ w'.cell? ⟨e2, o2 + j * 2 + 1, none⟩ = some (.int .i64 fo) ∧ w'.cell? ⟨ar, 1, none⟩ = some (.int .i64 t)) (first | exact ⟨r0, r1, z0, z1, a1⟩ | go_keep) (fail)
            obtain ⟨Wy, hWy⟩ : ∃ Wy, ((wr.alloc (.cells #[.int .i64 ex, .int .i64 eo] 27)).alloc (.cells #[.int .i64 fx, .int .i64 fo] 27)).drew = Wy := ⟨_, rfl⟩
            rw [hWy]
            have hbY : Below wr.heap.size wr Wy := by rw [← hWy]; exact below_drewN' hbF 1
            have hzY : Hid (Wy.heap.size = wr.heap.size + 2) := by show _ = _; rw [← hWy]; simp
            have PX : Wy.heap[wr.heap.size]? = some (.cells #[.int .i64 ex, .int .i64 eo] 27 (0, 0)) := by
              rw [← hWy]
              exact (Below.heap_alloc _ _ _ (by simp)).trans (heap_alloc_new wr _)
            have PY : Wy.heap[wr.heap.size + 1]? = some (.cells #[.int .i64 fx, .int .i64 fo] 27 (0, 0)) := by
              rw [← hWy]
              have := heap_alloc_new (wr.alloc (.cells #[.int .i64 ex, .int .i64 eo] 27)) (.cells #[.int .i64 fx, .int .i64 fo] 27)
              rwa [World.size_alloc] at this
            have x0y : Wy.cell? ⟨wr.heap.size, 0, none⟩ = some (.int .i64 ex) := by rw [cell_of_row _ _ _ _ _ _ PX]; rfl
            have y0y : Wy.cell? ⟨wr.heap.size + 1, 0, none⟩ = some (.int .i64 fx) := by rw [cell_of_row _ _ _ _ _ _ PY]; rfl
            have x0t : (Wy.alloc (.cells #[.int .i64 ex, .int .i64 fx] 84)).cell? ⟨wr.heap.size, 0, none⟩ = some (.int .i64 ex) := by rw [World.cell?_alloc_past _ _ _ (by show wr.heap.size < _; rw [hzY.out]; omega)]; exact x0y
            have y0t : (Wy.alloc (.cells #[.int .i64 ex, .int .i64 fx] 84)).cell? ⟨wr.heap.size + 1, 0, none⟩ = some (.int .i64 fx) := by rw [World.cell?_alloc_past _ _ _ (by show wr.heap.size + 1 < _; rw [hzY.out]; omega)]; exact y0y
            have hbT : Below wr.heap.size wr (Wy.alloc (.cells #[.int .i64 ex, .int .i64 fx] 84)) := hbY.alloc (by rw [hzY.out]; omega) _
            have HBT := Lib.hid hbT
            have HWT := Lib.hid (hW'.out.below hbT)
            have HAT : Hid (ArP (fun b => W.heap.size ≤ b) (Wy.alloc (.cells #[.int .i64 ex, .int .i64 fx] 84)) ar nb ((k : Int), xw)) := hA'.out.kpE (KpE.of_below hbT)
            have HJT := Lib.hid (JJ.out _ _ _ hJ'.out (KIe.of_below hbT hszx))
            have hnx : Hid ((Mc.nx (Mc.pr a b) (k : Int) j).1 = Mc.cd nb ex fx) := by
              show _ = _
              have h1 := Mc.pr_at (a := a) (b := b) (s := s) (t := t) (i := j) (by rw [HNA.out]; exact hs) (by rw [HNB.out]; exact ht) (by rw [← hn1.out]; omega)
              rw [HNB.out] at h1
              rw [hkst, h1, Mc.nx_at hqr1.out hqe1.out, Mc.nx_at hqr2.out hqe2.out]
            have hst : Hid (Mc.bfR (Mc.pr a b) ((k : Int), xw) (j + 1) Q = Mc.bfE (Mc.pr a b) ((k : Int), xw) Q' j) := by
              show _ = _
              rw [Mc.bfR, hR'.out]
            have ok1 := HVA.out.ok row1 (List.mem_of_getElem? hqr1.out) _ (List.mem_of_getElem? hqe1.out)
            have ok2 := HVB.out.ok row2 (List.mem_of_getElem? hqr2.out) _ (List.mem_of_getElem? hqe2.out)
            simp only [HNA.out, HNB.out] at ok1 ok2
            clear hbE hbF hWE r0 r1 z0 z1 a1 ne0 ne1 ne2 ne3 ne4 hab2 x0 y0 he1 hx0 hy0 he2 hx2 hy2 PX PY hbY hbT hWy hqe1 hqe2
            have keep : Mc.cd nb ex fx < 0 → Hid (Mc.bfR (Mc.pr a b) ((k : Int), xw) (j + 1) Q = Q') := fun h => by
              show _ = _
              rw [hst.out]
              unfold Mc.bfE
              rw [if_pos (Or.inl (by simp only [hnx.out]; exact h))]
            by_cases hx1 : ex = -1
            · subst hx1
              have hgo := keep (by rw [Mc.cd_none1]; omega)
              clear keep ok1 ok2
              gi_wp2
              go_roundw
              case rel => exact ⟨j + 1, Q', gq', q', cq', by go_num, rfl, by omega, hq64', hq1', hQ', hgo, HJT, HWT, HAT⟩
              case measure => simp [intOf]; omega
            · have hxb : (ex == -1) = false := by rw [beq_eq_false_iff_ne]; exact hx1
              by_cases hf1 : fx = -1
              · subst hf1
                have hgo := keep (by rw [Mc.cd_none2]; omega)
                clear keep ok1 ok2
                gi_wp2
                go_roundw
                case rel => exact ⟨j + 1, Q', gq', q', cq', by go_num, rfl, by omega, hq64', hq1', hQ', hgo, HJT, HWT, HAT⟩
                case measure => simp [intOf]; omega
              · have hfb : (fx == -1) = false := by rw [beq_eq_false_iff_ne]; exact hf1
                obtain ⟨u, rfl⟩ := Int.eq_ofNat_of_zero_le (show 0 ≤ ex by omega)
                obtain ⟨v, rfl⟩ := Int.eq_ofNat_of_zero_le (show 0 ≤ fx by omega)
                have hun : u < na := by omega
                have hvn : v < nb := by omega
                have hin : InQ ((u : Int), (v : Int)) := ⟨⟨by simp, by simp only; omega⟩, ⟨by simp, by simp only; omega⟩⟩
                have hlook := HWT.out.fb.look hin
                have hpos : ∀ e ∈ Q', (0 : Int) ≤ e.1 := fun e he => by
                  have h1 := hB.out.bfRQ HQV.out ⟨by omega, by rw [hPL.out]; omega⟩ HX.out j (by show (j : Int) ≤ a.i; rw [← hn1.out]; omega)
                  rw [hR'.out] at h1
                  exact (h1.lw e he).1.1
                have hiff := pq_iff (u := u) hvn hpos
                have hcd : Hid (Mc.cd nb (u : Int) (v : Int) = ((u * nb + v : Nat) : Int)) := Mc.cd_nat nb u v
                cases hlk : Q'.lookup ((u * nb + v : Nat) : Int) with
                | some wv =>
                  rw [hlk] at hiff
                  rw [decide_eq_true (hiff.2 rfl)] at hlook
                  have hgo : Hid (Mc.bfR (Mc.pr a b) ((k : Int), xw) (j + 1) Q = Q') := by
                    show _ = _
                    rw [hst.out]
                    unfold Mc.bfE
                    rw [if_pos (Or.inr (by simp only [hnx.out, hcd.out, hlk, Option.isSome_some]))]
                  clear keep ok1 ok2 hlk hiff hpos
                  gi_wp2
                  go_roundw
                  case rel => exact ⟨j + 1, Q', gq', q', cq', by go_num, rfl, by omega, hq64', hq1', hQ', hgo, HJT, HWT, HAT⟩
                  case measure => simp [intOf]; omega
                | none =>
                  rw [hlk] at hiff
                  rw [decide_eq_false (fun h => by simpa using hiff.1 h)] at hlook
                  have hgo : Hid (Mc.bfR (Mc.pr a b) ((k : Int), xw) (j + 1) Q = Q' ++ [(((u * nb + v : Nat) : Int), xw ++ [(j : Int)])]) := by
                    show _ = _
                    rw [hst.out]
                    unfold Mc.bfE
                    rw [if_neg (by
                      simp only [hnx.out, hcd.out, hlk, Option.isSome_none]
                      rintro (h | h)
                      · exact absurd h (Int.not_lt.2 (Int.natCast_nonneg _))
                      · cases h)]
                    simp only [hnx.out, hcd.out]
                  have hlen64 : q' + 1 ≤ 4096 := by
                    have h1 := (hB.out.bfRQ HQV.out ⟨by omega, by rw [hPL.out]; omega⟩ HX.out (j + 1) (by show ((j + 1 : Nat) : Int) ≤ a.i; rw [← hn1.out]; omega)).lenQ HQV.out
                    rw [hgo.out, List.length_append, hQ'.out, hPL.out] at h1
                    simp at h1
                    omega
                  obtain ⟨wp, hput, hps, hpg⟩ := HWT.out.fb.put (by have := hQ'.out; unfold maxLen; omega) hin
                  have hsp := hpg.size
                  have hne9 : Wy.heap.size ≠ W.heap.size := by have := hW'.out.fb.lt; have := hzY.out; omega
                  have t0 : wp.cell? ⟨Wy.heap.size, 0, none⟩ = some (.int .i64 u) := by
                    rw [hpg.cell_far _ (by simp) (by intro e; injection e with e; exact hne9 e), World.cell?_alloc_at _ _ _ _ rfl]
                    rfl
                  have t1 : wp.cell? ⟨Wy.heap.size, 1, none⟩ = some (.int .i64 v) := by
                    rw [hpg.cell_far _ (by simp) (by intro e; injection e with e; exact hne9 e), World.cell?_alloc_at _ _ _ _ rfl]
                    rfl
                  obtain ⟨es9, c9, hm9⟩ := HWT.out.fb.isMap
                  have hAp : Hid (ArP (fun b => W.heap.size ≤ b) wp ar nb ((k : Int), xw)) := HAT.out.kpE (KpE.of_kie (KIe.one hpg HWT.out.f0 (Or.inl ⟨es9, c9, hm9⟩)))
                  obtain ⟨_, ap5, ai5, hab5⟩ := hAp.out
                  obtain ⟨_, _, _, _, a5⟩ := hab5.cells
                  simp only [HXL.out] at a5
                  have ne0 := World.new_ne _ _ t0
                  have ne1 := World.new_ne _ _ t1
                  have ne2 := World.new_ne _ _ a5
                  obtain ⟨gs', hqo'⟩ := hW'.out.qo
                  have hql0 : 0 < Q'.length := by rw [hQ'.out]; omega
                  obtain ⟨gq2, cq2, cur2, hV2, hbq2, hgq2, _⟩ := hqo'.form hql0
                  rw [hQ'.out] at hV2
                  injection hV2 with hV3 _ hV4
                  subst hV4
                  injection hV3 with hV3
                  injection hV3 with hV3 _ _
                  subst hV3
                  have hfq : W.heap.size ≠ gq' := by
                    rintro e
                    obtain ⟨es8, c8, hm8⟩ := hW'.out.fb.isMap
                    rw [e, hgq2] at hm8
                    injection hm8 with hm8
                    cases hm8
                  have hgqT : gq' < (Wy.alloc (.cells #[.int .i64 u, .int .i64 v] 84)).heap.size := by have := heap_lt hgq2; have := HBT.out.size; omega
                  have hrowT := row_kce hqo'.row (KCe.of_below (D := D) (M := w.heap.size) HBT.out) DW.out
                  have hrowP := hrowT.kept hpg (Or.inr (by simp only [Value.ownBlock]; intro e; injection e with e; exact hfq e.symm))
                  rw [hQ'.out] at hrowP
                  have hownE : ((wp.alloc (.cells #[.int .i64 u, .int .i64 v, .pointer (some ⟨ar, 0, none⟩), .int .i64 j, .int .i64 (IntKind.i64.wrap ((xl : Int) + 1))] 86)).alloc (.cells #[.pointer (some ⟨wp.heap.size, 0, none⟩)] 83)).drew.ownsRow W.heap.size 83 1 (.slice (some ⟨gq', 0, none⟩) q' cq') q' (ptrs gs') := (hrowP.alloc _).alloc _
                  obtain ⟨i0, hi0, hz0, hz1, hz2⟩ := info_parts ptr_info
                  have s1 : Hid (∀ (k : Nat) y, ([.pointer (some ⟨wp.heap.size, 0, none⟩)] : List Value)[k]? = some y → ((wp.alloc (.cells #[.int .i64 u, .int .i64 v, .pointer (some ⟨ar, 0, none⟩), .int .i64 j, .int .i64 (IntKind.i64.wrap ((xl : Int) + 1))] 86)).alloc (.cells #[.pointer (some ⟨wp.heap.size, 0, none⟩)] 83)).drew.cell? ((⟨wp.heap.size + 1, 0, none⟩ : Addr).add k) = some y) := by
                    have h := World.news_of_block (heap_alloc_new (wp.alloc (.cells #[.int .i64 u, .int .i64 v, .pointer (some ⟨ar, 0, none⟩), .int .i64 j, .int .i64 (IntKind.i64.wrap ((xl : Int) + 1))] 86)) (.cells #[.pointer (some ⟨wp.heap.size, 0, none⟩)] 83))
                    rw [World.size_alloc] at h
                    exact h
                  have s2 : Hid (∀ u ∈ ([.pointer (some ⟨wp.heap.size, 0, none⟩)] : List Value), u.oneCell' = true) := fun u hu => by simp at hu; subst hu; rfl
                  have s3 : q' + 1 ≤ maxLen := by unfold maxLen; omega
                  have s4 : (q' + 1) * 8 ≤ 140737488355328 := by omega
                  have s5 : W.heap.size ≤ ((wp.alloc (.cells #[.int .i64 u, .int .i64 v, .pointer (some ⟨ar, 0, none⟩), .int .i64 j, .int .i64 (IntKind.i64.wrap ((xl : Int) + 1))] 86)).alloc (.cells #[.pointer (some ⟨wp.heap.size, 0, none⟩)] 83)).drew.heap.size := by
                    have h1 := hpg.size
                    have h2 := HBT.out.size
                    show W.heap.size ≤ ((wp.alloc (.cells #[.int .i64 u, .int .i64 v, .pointer (some ⟨ar, 0, none⟩), .int .i64 j, .int .i64 (IntKind.i64.wrap ((xl : Int) + 1))] 86)).alloc (.cells #[.pointer (some ⟨wp.heap.size, 0, none⟩)] 83)).heap.size
                    rw [World.size_alloc, World.size_alloc]
                    omega
                  have c0 : ((wp.alloc (.cells #[.int .i64 u, .int .i64 v, .pointer (some ⟨ar, 0, none⟩), .int .i64 j, .int .i64 (IntKind.i64.wrap ((xl : Int) + 1))] 86)).alloc (.cells #[.pointer (some ⟨wp.heap.size, 0, none⟩)] 83)).drew.cell? ⟨Wy.heap.size, 0, none⟩ = some (.int .i64 u) := by go_keep
                  have c1 : ((wp.alloc (.cells #[.int .i64 u, .int .i64 v, .pointer (some ⟨ar, 0, none⟩), .int .i64 j, .int .i64 (IntKind.i64.wrap ((xl : Int) + 1))] 86)).alloc (.cells #[.pointer (some ⟨wp.heap.size, 0, none⟩)] 83)).drew.cell? ⟨Wy.heap.size, 1, none⟩ = some (.int .i64 v) := by go_keep
                  have c2 : ((wp.alloc (.cells #[.int .i64 u, .int .i64 v, .pointer (some ⟨ar, 0, none⟩), .int .i64 j, .int .i64 (IntKind.i64.wrap ((xl : Int) + 1))] 86)).alloc (.cells #[.pointer (some ⟨wp.heap.size, 0, none⟩)] 83)).drew.cell? ⟨ar, 4, none⟩ = some (.int .i64 xl) := by go_keep
                  have l9 : wp.heap.size + 2 = ((wp.alloc (.cells #[.int .i64 u, .int .i64 v, .pointer (some ⟨ar, 0, none⟩), .int .i64 j, .int .i64 (IntKind.i64.wrap ((xl : Int) + 1))] 86)).alloc (.cells #[.pointer (some ⟨wp.heap.size, 0, none⟩)] 83)).drew.heap.size := by
                    show _ = ((wp.alloc (.cells #[.int .i64 u, .int .i64 v, .pointer (some ⟨ar, 0, none⟩), .int .i64 j, .int .i64 (IntKind.i64.wrap ((xl : Int) + 1))] 86)).alloc (.cells #[.pointer (some ⟨wp.heap.size, 0, none⟩)] 83)).heap.size
                    rw [World.size_alloc, World.size_alloc]
                  have far : ∀ {w1 : World} {b o : Nat} {y : Value}, ((wp.alloc (.cells #[.int .i64 u, .int .i64 v, .pointer (some ⟨ar, 0, none⟩), .int .i64 j, .int .i64 (IntKind.i64.wrap ((xl : Int) + 1))] 86)).alloc (.cells #[.pointer (some ⟨wp.heap.size, 0, none⟩)] 83)).drew.grownBy w1 (some gq') → b < wp.heap.size → b ≠ gq' → ((wp.alloc (.cells #[.int .i64 u, .int .i64 v, .pointer (some ⟨ar, 0, none⟩), .int .i64 j, .int .i64 (IntKind.i64.wrap ((xl : Int) + 1))] 86)).alloc (.cells #[.pointer (some ⟨wp.heap.size, 0, none⟩)] 83)).drew.cell? ⟨b, o, none⟩ = some y → w1.cell? ⟨b, o, none⟩ = some y := fun {_ b9 _ _} hg hb hne hc => (hg.cell_far ⟨b9, _, none⟩ (by show b9 < _; rw [← l9]; omega) (by intro e; injection e with e; exact hne e)).trans hc
                  have lY : Wy.heap.size < wp.heap.size := by simp at hsp; omega
                  have lA := hab5.lt
                  have nY : Wy.heap.size ≠ gq' := by have h1 := heap_lt hgq2; have h2 := hzY.out; omega
                  have nA : ar ≠ gq' := by
                    rintro e
                    have h1 : wr.heap[ar]? = _ := hab2L
                    rw [e, hgq2] at h1
                    injection h1 with h1
                    injection h1 with _ h1 _
                    exact absurd h1 (by decide)
                  clear keep ok1 ok2 hlk hiff hpos hm9
                  gi_wp2_with fail
                  clear hput hlook x0t y0t x0y y0y
                  refine wpIn_wide.2 ?_
                  go_region_held3 (fun w' => w'.cell? ⟨Wy.heap.size, 0, none⟩ = some (.int .i64 u) ∧ w'.cell? ⟨Wy.heap.size, 1, none⟩ = some (.int .i64 v) ∧ w'.cell? ⟨ar, 4, none⟩ = some (.int .i64 xl)) (first | exact ⟨t0, t1, a5⟩ | exact ⟨c0, c1, c2⟩ | exact ⟨far hg1 lY nY c0, far hg1 lY nY c1, far hg1 lA nA c2⟩ | go_keep)
                    ((refine step_append_lies _ rfl (.tmp 80) (.tmp 91) 127 rfl W.heap.size 83 i0 (.pointer none) 1 8 Try.underlying127 hi0 hz0 hz1 hz2 rfl (by decide) (.slice (some ⟨gq', 0, none⟩) q' cq') q' (ptrs gs') (by simp [Act.eval]) hownE ⟨wp.heap.size + 1, 0, none⟩ 1 1 [.pointer (some ⟨wp.heap.size, 0, none⟩)] (by simp [Act.eval]) rfl s1.out s2.out (by decide) s3 s4 s5 _ rfl ?_; intro g2 c3 w1 hown1 hg1 hat1 hlt1))
                  have hpqe : pq nb (((u * nb + v : Nat) : Int), xw ++ [(j : Int)]) = ((u : Int), (v : Int)) := by
                    unfold pq
                    rw [← Int.natCast_ediv, ← Int.natCast_emod, Mc.cd_div hvn, Mc.cd_mod hvn]
                  rw [← hpqe] at hps
                  have hnew : ArB ((wp.alloc (.cells #[.int .i64 u, .int .i64 v, .pointer (some ⟨ar, 0, none⟩), .int .i64 j, .int .i64 (IntKind.i64.wrap ((xl : Int) + 1))] 86)).alloc (.cells #[.pointer (some ⟨wp.heap.size, 0, none⟩)] 83)).drew wp.heap.size (((u * nb + v : Nat) : Int) / (nb : Nat)) (((u * nb + v : Nat) : Int) % (nb : Nat)) (some ⟨ar, 0, none⟩) j ((xw.length + 1 : Nat) : Int) := by
                    rw [← Int.natCast_ediv, ← Int.natCast_emod, Mc.cd_div hvn, Mc.cd_mod hvn, HXL.out]
                    have e : (((xl + 1 : Nat)) : Int) = IntKind.i64.wrap ((xl : Int) + 1) := by rw [IntWalk.i64_in _ (by omega)]; omega
                    rw [e]
                    show ((wp.alloc (.cells #[.int .i64 u, .int .i64 v, .pointer (some ⟨ar, 0, none⟩), .int .i64 j, .int .i64 (IntKind.i64.wrap ((xl : Int) + 1))] 86)).alloc (.cells #[.pointer (some ⟨wp.heap.size, 0, none⟩)] 83)).heap[wp.heap.size]? = _
                    exact (Below.heap_alloc _ _ _ (by simp)).trans (heap_alloc_new wp _)
                  have hb5 : Below wp.heap.size wp ((wp.alloc (.cells #[.int .i64 u, .int .i64 v, .pointer (some ⟨ar, 0, none⟩), .int .i64 j, .int .i64 (IntKind.i64.wrap ((xl : Int) + 1))] 86)).alloc (.cells #[.pointer (some ⟨wp.heap.size, 0, none⟩)] 83)).drew := below_drewN' (((Below.refl _ _).alloc (Nat.le_refl _) _).alloc (by simp) _) 1
                  rw [← hQ'.out] at hown1
                  obtain ⟨K1, K2, K3⟩ := hW'.out.more hqo' hql0 HBT.out hps hpg hb5 hnew (by have := hpg.size; have := HBT.out.size; omega) hA'.out (by rw [hQ'.out]) hg1 hown1
                  rw [hQ'.out] at K1
                  have HW6 := Lib.hid K1
                  have HA6 := Lib.hid K3
                  have HJ6 := Lib.hid (JJ.out _ _ _ hJ'.out K2)
                  have hQ6 : Hid ((Q' ++ [(((u * nb + v : Nat) : Int), xw ++ [(j : Int)])]).length = q' + 1) := by
                    show _ = _
                    rw [List.length_append, hQ'.out]
                    rfl
                  clear K1 K2 K3 hown1 hnew hb5 hps hpqe hg1 far hpg hownE c0 c1 c2 t0 t1 a5 HWT HAT HJT HBT hW' hA' hJ'
                  gi_wp2
                  go_roundw
                  case rel => exact ⟨j + 1, Q' ++ [(((u * nb + v : Nat) : Int), xw ++ [(j : Int)])], g2, q' + 1, c3, by go_num, rfl, by omega, hlen64, by omega, hQ6, hgo, HJ6, HW6, HA6⟩
                  case measure => simp [intOf]; omega
          · have hjn : j = n2 := by omega
            have hmi : (Mc.pr a b).i.toNat = j := by show a.i.toNat = j; rw [← hn1.out, hjn]; simp
            have h1 := hB.out.rowQ HQV.out ⟨by omega, by rw [hPL.out]; omega⟩ HX.out
            rw [hmi, hR'.out] at h1
            have hlq := h1.lenQ HQV.out
            have hpre := (Mc.bfR_pre (Mc.pr a b) ((k : Int), xw) Q j).length_le
            rw [hR'.out, hQ.out, hQ'.out] at hpre
            rw [hQ'.out, hPL.out] at hlq
            obtain ⟨fv, rfl⟩ : ∃ fv, fu = fv + 1 := ⟨fu - 1, by omega⟩
            have hG' : Hid (Mc.bfG (Mc.pr a b) fv (p + 1) Q' = L) := by
              show _ = _
              rw [← hG.out, bfG_atE HX.out, hmi, hR'.out]
            have hB' := Lib.hid h1
            clear hA' hmi h1
            gi_wp2
            go_roundw
            case rel => exact ⟨p + 1, Q', gq', q', cq', fv, by go_num, rfl, by omega, hq64', hq1', by omega, hQ', hG', hB', hJ', hW'⟩
            case measure => simp [intOf]; omega
      · clear hyl hR
        gi_wp2
        refine bodyPost_ret (results_none rfl _ _ _) rfl ?_
        exact ⟨⟨_, rfl⟩, .inr hJx3⟩
    · have hpe : p = q := by omega
      have hfin : Hid (J L.length wr) := by
        have h1 := hG.out
        have h2 := hQ.out
        rw [hpe, ← h2, bfG_endE] at h1
        have : L.length = p := by rw [← h1, h2, hpe]
        rw [this]
        exact hj.out
      clear hj hG
      gi_wp2
      go_end0
      exact ⟨⟨_, rfl⟩, .inl hfin.out⟩
end Go.Proofs.Ytgafpmgdpigliaa
