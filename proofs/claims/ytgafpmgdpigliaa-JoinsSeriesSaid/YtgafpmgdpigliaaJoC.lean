/-
  Contract: Rename, its walk. No statement is proved here.
-/
import Derived.Test.YtgafpmgdpigliaaJoB
namespace Go.Proofs.Ytgafpmgdpigliaa
open Go.RowKit
open Mc (Ed Ma Wv nE)

theorem edA_at {a : Ma} {s j : Nat} {row : List Ed} {x : Ed} (h : a.r[s]? = some row) (hj : row[j]? = some x) : edA a s j = x := by unfold edA; rw [h, Option.getD_some, hj, Option.getD_some]
theorem rd_nth {w : World} {A : Option Addr} {l : List Int} (h : Rd w A l) {k : Nat} (hk : k < l.length) : ∃ b off z, A = some ⟨b, off, none⟩ ∧ b < w.heap.size ∧ w.cell? ⟨b, off + k, none⟩ = some (.int .i64 z) ∧ l[k]? = some z := by
  obtain ⟨b, off, z, h1, h2, h3, h4⟩ := h.at_ hk
  refine ⟨b, off, z, h1, h2, h3, ?_⟩
  have h5 := h4.out
  rw [List.getElem?_eq_getElem hk] at h5 ⊢
  exact congrArg some h5
set_option maxRecDepth 100000 in
set_option maxHeartbeats 1500000 in
theorem rename_any (a : Ma) (A : Option Addr) (n c : Nat) (ins outs sts : List Int) (I O S : Option Addr) (l0 cI l1 cO l2 cS : Nat) (w : World) (hra : RdR w A a.r) (hn : a.r.length = n) (hnb : n ≤ 1000000) (hrl : ∀ row ∈ a.r, row.length ≤ 1000000)
    (hri : Rd w I ins) (hl0 : ins.length = l0) (hro : Rd w O outs) (hl1 : outs.length = l1) (hrs : Rd w S sts) (hl2 : sts.length = l2) (hm0 : l0 ≤ 9223372036854775807) (hm1 : l1 ≤ 9223372036854775807) (hm2 : l2 ≤ 9223372036854775807) :
    Calls Try.prog 26 #[.agg #[.int .i64 a.i, .int .i64 a.o, .slice A n c], .slice I l0 cI, .slice O l1 cO, .slice S l2 cS] w (JeP w (kech a ins outs sts) a.i a.o (renT a ins outs sts n a.i.toNat)) := by
  have hJ0 := J1.mk_ w a A n c
  obtain ⟨x0, x1, x2⟩ := hJ0.ba.cells
  obtain ⟨W0, hW0⟩ : ∃ W0, (boxM w a.i a.o A n c).alloc (.cells #[.int .i64 0, .int .i64 0, .slice none 0 0] 24) = W0 := ⟨_, rfl⟩
  have HCK := Lib.hid (kcheck_any a A n c ins outs sts I O S l0 cI l1 cO l2 cS W0 (by rw [← hW0]; exact hra.below hJ0.bel) hn hnb hrl (by rw [← hW0]; exact hri.below hJ0.bel) hl0 (by rw [← hW0]; exact hro.below hJ0.bel) hl1 (by rw [← hW0]; exact hrs.below hJ0.bel) hl2 hm0 hm1 hm2)
  have HRA := Lib.hid hra
  have HRI := Lib.hid hri
  have HRO := Lib.hid hro
  have HRS := Lib.hid hrs
  have HN := Lib.hid hn
  have HL0 := Lib.hid hl0
  have HL1 := Lib.hid hl1
  have HL2 := Lib.hid hl2
  obtain ⟨ce, hce⟩ : ∃ ce, kech a ins outs sts = ce := ⟨_, rfl⟩
  rw [hce] at HCK ⊢
  obtain ⟨P0, hP0⟩ : ∃ P0, JeP w ce a.i a.o (renT a ins outs sts n a.i.toNat) = P0 := ⟨_, rfl⟩
  have HP0 := Lib.hid hP0
  rw [hP0]
  rw [hW0] at hJ0 x0 x1 x2
  have HJ0 := Lib.hid hJ0
  have HW0 := Lib.hid hW0
  have HCE := Lib.hid hce
  clear hJ0 hW0 hP0 hra hn hrl hnb hri hl0 hro hl1 hrs hl2 hce hm0 hm1 hm2
  go_enter Try.func26, Try.ntmps26
  go_upto_region 1 with fail
  try rw [HW0.out]
  go_wp2_with fail
  with_reducible refine HCK.out.mono ?_
  rintro e w1 ⟨rfl, hb1⟩
  have hJ1 := Lib.hid (HJ0.out.below hb1)
  clear x0 x1 x2 hb1 HJ0 HW0 HCK
  obtain ⟨e0, e1, e2⟩ := hJ1.out.bz.cells
  obtain ⟨f0, f1, f2⟩ := hJ1.out.bz.frozen
  obtain ⟨x0, x1, x2⟩ := hJ1.out.ba.cells
  by_cases hc : ce = 0
  · subst hc
    obtain ⟨va, k0, k1, k2, d0, d1, d2, dz⟩ := kech_zero HCE.out
    have VA := Lib.hid va
    have hi : ((a.i.toNat : Nat) : Int) = a.i := by have := va.i0; omega
    have HI := Lib.hid hi
    have hno : ((a.o.toNat : Nat) : Int) = a.o := by have := va.o0; omega
    have HO := Lib.hid hno
    rw [HN.out] at d2 k2
    obtain ⟨i, hii⟩ : ∃ i, a.i.toNat = i := ⟨_, rfl⟩
    rw [hii] at d0 hi
    have HD0 := Lib.hid d0
    have HD1 := Lib.hid d1
    have HD2 := Lib.hid d2
    have HK0 : Hid (ins.length = i) := by show _ = _; omega
    have HK1 : Hid (outs.length = a.o.toNat) := by show _ = _; omega
    have HK2 := Lib.hid k2
    have hn64 : n ≤ 64 := by have := va.r1; have := HN.out; omega
    have hi16 : i ≤ 16 := by have := va.i1; omega
    have hl0i : l0 = i := by rw [← HL0.out]; exact HK0.out
    have hl2n : l2 = n := by rw [← HL2.out]; exact k2
    have HII := Lib.hid hii
    have HI2 := Lib.hid hi
    have HL0I := Lib.hid hl0i
    have HL2N := Lib.hid hl2n
    obtain ⟨bl, hbl⟩ : ∃ x, List.replicate n (List.replicate i nE) = x := ⟨_, rfl⟩
    have hBK := blank_any i a.o n w1 (by omega) (by omega)
    rw [hbl, hi] at hBK
    have hbl0 : Hid (bl = mkR n i (rnG a ins outs sts 0 0)) := by show _ = _; rw [← hbl, rnG_zero]
    have HBK := Lib.hid hBK
    clear hBK hbl va k0 k1 k2 d0 d1 d2 dz hi hno hii hl0i hl2n
    go_wp2_with fail
    with_reducible refine HBK.out.mono ?_
    rintro e w3 ⟨p, gs, rfl, hgs, hWb, hb3⟩
    have hB0 := Bw.start (i := i) (o := a.o) hWb hb3
    have HGS := Lib.hid hgs
    obtain ⟨g8, hg8⟩ : ∃ g, w3.heap.size = g := ⟨_, rfl⟩
    rw [HI2.out] at hB0
    obtain ⟨W4, hW4⟩ : ∃ W4, w3.alloc (.cells #[.int .i64 a.i, .int .i64 a.o, .slice (some ⟨p, 0, none⟩) n n] 24) = W4 := ⟨_, rfl⟩
    rw [hg8, hW4, hbl0.out] at hB0
    have hB1 := Lib.hid hB0
    have HW4 := Lib.hid hW4
    have HG8 := Lib.hid hg8
    clear hB0 hgs hWb hb3 hW4 hg8 e0 e1 e2 f0 f1 f2 x0 x1 x2
    obtain ⟨x0, x1, x2⟩ := (hJ1.out.below hB1.out.b1).ba.cells
    go_upto_region 5 with fail
    try rw [HW4.out]
    try rw [HG8.out]
    go_wp2
    clear x0 x1 x2
    go_loopw [36] (fun v wr => ∃ s : Nat, s ≤ n ∧ v = .int .i64 s ∧ Hid (Bw w1 g8 a.i a.o p n gs (mkR n i (rnG a ins outs sts s 0)) wr)) (fun v _ => n - (intOf v).toNat)
    case atStart => exact ⟨0, Nat.zero_le _, rfl, hB1⟩
    case round =>
      obtain ⟨s, hs, rfl, hB⟩ := hrel
      clear hB1
      by_cases hsn : s < n
      · obtain ⟨b1, off1, R1, d1, n1, row, rfl, hb1, hcw0, _, _, _, hpw1, hln1, hqr1⟩ := HRA.out.at_ (k := s) (by rw [HN.out]; exact hsn)
        have hn1 : n1 = i := by
          have h1 := VA.out.len row (List.mem_of_getElem? hqr1.out)
          have h2 := hln1.out
          have h3 := HI2.out
          omega
        subst hn1
        have c0 := ((below_next hJ1.out.bel hB.out.b1).cell (p := ⟨b1, off1 + s, none⟩) hb1).trans hcw0
        have hs1 : (s : Int) < n := by omega
        obtain ⟨bs, os, t, rfl, hbs, hcs, hts⟩ := rd_nth HRS.out (k := s) (by rw [HK2.out]; exact hsn)
        obtain ⟨ht0, ht1⟩ := HD2.out.2 t (List.mem_of_getElem? hts)
        obtain ⟨t, rfl⟩ := Int.eq_ofNat_of_zero_le ht0
        have htn : t < n := by omega
        have HTS := Lib.hid hts
        have HCS := Lib.hid hcs
        have HCW := Lib.hid hcw0
        clear hts hcs hcw0
        go_wp2
        clear c0
        go_loopw [43] (fun v wr => ∃ j : Nat, j ≤ n1 ∧ v = .int .i64 j ∧ Hid (Bw w1 g8 a.i a.o p n gs (mkR n n1 (rnG a ins outs sts s j)) wr)) (fun v _ => n1 - (intOf v).toNat)
        case atStart => exact ⟨0, Nat.zero_le _, rfl, hB⟩
        case round =>
          clear hB
          obtain ⟨j, hj, rfl, hB⟩ := hrel
          by_cases hjn : j < n1
          · have hbel := Lib.hid (below_next hJ1.out.bel hB.out.b1)
            obtain ⟨e1, o1, ex, ey, rfl, he1, hx0, hy0, hqe⟩ := hpw1.at_ (k := j) (by rw [hln1.out]; exact hjn)
            obtain ⟨bi, oi, cc, rfl, hbi, hci, htj⟩ := rd_nth HRI.out (k := j) (by rw [HK0.out]; exact hjn)
            obtain ⟨hc0, hc1⟩ := HD0.out.2 cc (List.mem_of_getElem? htj)
            obtain ⟨cc, rfl⟩ := Int.eq_ofNat_of_zero_le hc0
            have hcn : cc < n1 := by omega
            have q0 := (hbel.out.cell (p := ⟨e1, o1 + j * 2, none⟩) he1).trans hx0
            have q1 := (hbel.out.cell (p := ⟨e1, o1 + j * 2 + 1, none⟩) he1).trans hy0
            have hok := VA.out.ok row (List.mem_of_getElem? hqr1.out) _ (List.mem_of_getElem? hqe.out)
            simp only at hok
            have hstep := Lib.hid (fun t' c' ht' hc' => rnG_step (a := a) (outs := outs) HD2.out HK2.out HD0.out HK0.out HTS.out htj t' c' ht' hc')
            have hed := edA_at hqr1.out hqe.out
            have HED := Lib.hid hed
            have HTJ := Lib.hid htj
            have HCI := Lib.hid hci
            have hj1 : (j : Int) < n1 := by omega
            clear hed htj hci hx0 hy0
            rcases hok with ⟨rfl, rfl⟩ | ⟨h1, h2, h3, h4⟩
            · have hB2 : Hid (Bw w1 g8 a.i a.o p n gs (mkR n n1 (rnG a ins outs sts s (j + 1))) (wr.alloc (.cells #[.int .i64 (-1), .int .i64 (-1)] 27))) := by
                show Bw _ _ _ _ _ _ _ _ _
                rw [show mkR n n1 (rnG a ins outs sts s (j + 1)) = mkR n n1 (rnG a ins outs sts s j) from mkR_congr fun t' c' ht' hc' => by
                  rw [hstep.out t' c' ht' hc', HED.out]
                  by_cases h : t' = t ∧ c' = cc
                  · rw [if_pos h]
                    unfold rnG
                    have i1 := (idx_iff HD2.out HK2.out HTS.out ht').2 h.1
                    have i2 := (idx_iff HD0.out HK0.out HTJ.out hc').2 h.2
                    rw [if_neg (by omega)]
                    rfl
                  · rw [if_neg h]]
                exact hB.out.below ((Below.refl _ _).alloc (Nat.le_refl _) _)
              clear hB
              go_wp2
              go_roundw
              case rel => exact ⟨j + 1, by omega, by go_num, hB2⟩
              case measure => simp [intOf]; omega
            · have hml : (a.r.length : Int) = n := by rw [HN.out]
              rw [hml] at h2
              obtain ⟨ex, rfl⟩ := Int.eq_ofNat_of_zero_le h1
              obtain ⟨ey, rfl⟩ := Int.eq_ofNat_of_zero_le h3
              have hne : ((ex : Int) == -1) = false := by rw [beq_eq_false_iff_ne]; omega
              have hex : ex < n := by omega
              have hey : ey < outs.length := by have h6 := HK1.out; omega
              obtain ⟨b', o', t2, hE, hb', hct2, hst2⟩ := rd_nth HRS.out (k := ex) (by rw [HK2.out]; exact hex)
              injection hE with hE
              injection hE with hE1 hE2 _
              subst hE1 hE2
              obtain ⟨bo, oo, v2, rfl, hbo, hcv2, hov2⟩ := rd_nth HRO.out (k := ey) hey
              have hrn : rnE outs sts ((ex : Int), (ey : Int)) = (t2, v2) := by
                unfold rnE
                rw [if_neg (by simp only; omega)]
                simp only [Int.toNat_natCast, hst2, hov2, Option.getD_some]
              obtain ⟨gk, hgk⟩ : ∃ g, gs[t]? = some g := ⟨_, List.getElem?_eq_getElem (by rw [HGS.out]; exact htn)⟩
              obtain ⟨old, hold⟩ : ∃ r, ((List.range n1).map fun c => rnG a ins outs sts s j t c) = r := ⟨_, rfl⟩
              have hra : Hid ((mkR n n1 (rnG a ins outs sts s j))[t]? = some old) := by show _ = _; rw [mkR_at htn, hold]
              have hol : Hid (old.length = n1) := by show _ = _; rw [← hold]; simp
              have hnew : Hid ((mkR n n1 (rnG a ins outs sts s j)).set t (old.set cc (t2, v2)) = mkR n n1 (rnG a ins outs sts s (j + 1))) := by
                show _ = _
                rw [← hold, mkR_set htn hcn]
                refine mkR_congr fun t' c' ht' hc' => ?_
                rw [hstep.out t' c' ht' hc', HED.out, hrn]
              have HGK := Lib.hid hgk
              have hpl2 : p < wr.heap.size := heap_lt hB.out.wb.blk
              obtain ⟨hgb, hgp, hgl⟩ := hB.out.wb.own gk (List.mem_of_getElem? hgk)
              have hg8l : g8 < wr.heap.size := heap_lt hB.out.bx
              have SS : ∀ (Y : World) (rs : List (List Ed)) (r : List Ed), Bw w1 g8 a.i a.o p n gs rs Y → rs.length = n → rs[t]? = some r → r.length = n1 → Y.cell? ⟨g8, 2, none⟩ = some (.slice (some ⟨p, 0, none⟩) n n) ∧ Y.cell? ⟨bs, os + s, none⟩ = some (.int .i64 t) ∧ Y.cell? ⟨p, t, none⟩ = some (.slice (some ⟨gk, 0, none⟩) n1 n1) ∧ Y.cell? ⟨bi, oi + j, none⟩ = some (.int .i64 cc) ∧ Y.cell? ⟨bs, os + ex, none⟩ = some (.int .i64 t2) ∧ Y.cell? ⟨bo, oo + ey, none⟩ = some (.int .i64 v2) := fun Y rs r hY hrl hr hl => by
                have hy := below_next hJ1.out.bel hY.b1
                have c1 := hY.wb.at_ HGK.out hr (by rw [HGS.out, hrl]; exact Nat.le_refl _)
                rw [hl] at c1
                exact ⟨hY.bx.cells.2.2, (hy.cell (p := ⟨bs, os + s, none⟩) hbs).trans HCS.out, c1, (hy.cell (p := ⟨bi, oi + j, none⟩) hbi).trans HCI.out, (hy.cell (p := ⟨bs, os + ex, none⟩) hb').trans hct2, (hy.cell (p := ⟨bo, oo + ey, none⟩) hbo).trans hcv2⟩
              have hBE := hB.out.below ((Below.refl _ _).alloc (Nat.le_refl _) (.cells #[.int .i64 ex, .int .i64 ey] 27))
              obtain ⟨y0, y1, y2, y3, y4, y5⟩ := SS _ _ _ hBE mkR_len hra.out hol.out
              obtain ⟨y6, y7, _, _⟩ := (BxE.new wr (ex : Int) (ey : Int)).cells
              obtain ⟨⟨w0', w1', t0, t1⟩, tf⟩ := hB.out.cells HGK.out hra.out hol.out hcn
              obtain ⟨⟨u0', u1', s0, s1⟩, sf⟩ := hBE.cells HGK.out hra.out hol.out hcn
              have hP := hBE.put (x := (t2, v2)) HGK.out hra.out (by rw [hol.out]; exact hcn)
              rw [hnew.out] at hP
              have hbx : (((wr.alloc (.cells #[.int .i64 ex, .int .i64 ey] 27)).setCell ⟨gk, cc * 2, none⟩ (.int .i64 t2)).setCell ⟨gk, cc * 2 + 1, none⟩ (.int .i64 v2)).heap[wr.heap.size]? = some (.cells #[.int .i64 ex, .int .i64 ey] 27) :=
                (Below.heap_setCell _ _ _ _ (show wr.heap.size ≠ gk by omega)).trans ((Below.heap_setCell _ _ _ _ (show wr.heap.size ≠ gk by omega)).trans (heap_alloc_new wr _))
              rw [World.setCell_alloc_past _ _ _ _ (by show gk < wr.heap.size; exact hgl), World.setCell_alloc_past _ _ _ _ (by show gk < (wr.setCell _ _).heap.size; simpa [World.setCell] using hgl)] at hP hbx
              have hPd := hP.below ((Below.refl _ _).drew)
              obtain ⟨v0, v1, v2', v3, v4, v5⟩ := SS _ _ ((List.range n1).map fun c => rnG a ins outs sts s (j + 1) t c) hPd mkR_len (mkR_at htn) (by simp)
              have v6 : (((wr.setCell ⟨gk, cc * 2, none⟩ (.int .i64 t2)).setCell ⟨gk, cc * 2 + 1, none⟩ (.int .i64 v2)).alloc (.cells #[.int .i64 ex, .int .i64 ey] 27)).drew.cell? ⟨wr.heap.size, 0, none⟩ = some (.int .i64 ex) := by show World.cell? _ _ = _; exact (cell_of_row _ _ _ _ _ (0, 0) hbx).trans rfl
              have v7 : (((wr.setCell ⟨gk, cc * 2, none⟩ (.int .i64 t2)).setCell ⟨gk, cc * 2 + 1, none⟩ (.int .i64 v2)).alloc (.cells #[.int .i64 ex, .int .i64 ey] 27)).drew.cell? ⟨wr.heap.size, 1, none⟩ = some (.int .i64 ey) := by show World.cell? _ _ = _; exact (cell_of_row _ _ _ _ _ (0, 0) hbx).trans rfl
              have s0d : (wr.alloc (.cells #[.int .i64 ex, .int .i64 ey] 27)).drew.cell? ⟨gk, cc * 2, none⟩ = some (.int .i64 u0') := s0
              have s1d : (wr.alloc (.cells #[.int .i64 ex, .int .i64 ey] 27)).drew.cell? ⟨gk, cc * 2 + 1, none⟩ = some (.int .i64 u1') := s1
              have sfd : ∀ o, (wr.alloc (.cells #[.int .i64 ex, .int .i64 ey] 27)).drew.frozen? ⟨gk, o, none⟩ = false := sf
              have HF := Lib.hid hPd
              have i1 : (s : Int) < l2 := by rw [HL2N.out]; omega
              have i2 : (t : Int) < n := by omega
              have i3 : (j : Int) < l0 := by rw [HL0I.out]; omega
              have i4 : (cc : Int) < n1 := by omega
              have i5 : (ex : Int) < l2 := by rw [HL2N.out]; omega
              have i6 : (ey : Int) < l1 := by rw [← HL1.out]; omega
              clear hB hBE hP hPd hbx SS hnew hold hrn hgk hstep hct2 hcv2 hst2 hov2 hra hol
              go_wp2_with fail
              go_region_held3 (fun w' => w'.cell? ⟨g8, 2, none⟩ = some (.slice (some ⟨p, 0, none⟩) n n) ∧ w'.cell? ⟨bs, os + s, none⟩ = some (.int .i64 t) ∧ w'.cell? ⟨p, t, none⟩ = some (.slice (some ⟨gk, 0, none⟩) n1 n1) ∧ w'.cell? ⟨bi, oi + j, none⟩ = some (.int .i64 cc) ∧ w'.cell? ⟨bs, os + ex, none⟩ = some (.int .i64 t2) ∧ w'.cell? ⟨bo, oo + ey, none⟩ = some (.int .i64 v2) ∧ w'.cell? ⟨wr.heap.size, 0, none⟩ = some (.int .i64 ex) ∧ w'.cell? ⟨wr.heap.size, 1, none⟩ = some (.int .i64 ey)) (first | exact ⟨y0, y1, y2, y3, y4, y5, y6, y7⟩ | exact ⟨v0, v1, v2', v3, v4, v5, v6, v7⟩ | go_keep) (fail)
              go_wp2
              go_roundw
              case rel => exact ⟨j + 1, by omega, by go_num, HF⟩
              case measure => simp [intOf]; omega
          · have hjn2 : j = n1 := by omega
            have hB' : Hid (Bw w1 g8 a.i a.o p n gs (mkR n n1 (rnG a ins outs sts (s + 1) 0)) wr) := by
              have h1 := hB.out
              rw [hjn2, rnG_line HD0.out HK0.out] at h1
              exact h1
            have HJN := Lib.hid hjn2
            clear hB hjn2
            go_wp2
            go_roundw
            case rel => exact ⟨s + 1, by omega, by go_num, hB'⟩
            case measure => simp [intOf]; omega
      · have hsn2 : s = n := by omega
        have hTT : Hid (mkR n i (rnG a ins outs sts s 0) = renT a ins outs sts n a.i.toNat) := by
          show _ = _
          rw [hsn2, rnG_done HD2.out HK2.out, HII.out]
        rw [hTT.out] at hB
        have hZ := (hJ1.out.below hB.out.b1).bz
        obtain ⟨z0, z1, z2⟩ := hB.out.bx.cells
        obtain ⟨e0, e1, e2⟩ := hZ.cells
        obtain ⟨f0, f1, f2⟩ := hZ.frozen
        obtain ⟨r0, r1, r2⟩ := set3_reads hZ (.int .i64 a.i) (.int .i64 a.o) (.slice (some ⟨p, 0, none⟩) n n)
        have hwz := hJ1.out.bel.size
        have hbzl := heap_lt hJ1.out.bz
        have HFin : Hid (JeP w 0 a.i a.o (renT a ins outs sts n a.i.toNat) (.returned (.tuple #[.agg #[.int .i64 a.i, .int .i64 a.o, .slice (some ⟨p, 0, none⟩) n n], .int .i64 0])) (((wr.setCell ⟨w.heap.size + 1, 0, none⟩ (.int .i64 a.i)).setCell ⟨w.heap.size + 1, 1, none⟩ (.int .i64 a.o)).setCell ⟨w.heap.size + 1, 2, none⟩ (.slice (some ⟨p, 0, none⟩) n n))) :=
          Or.inr ⟨rfl, p, n, gs, rfl, mkR_len, HGS.out, (hB.out.wb.far3 hbzl _ _ _).base (by omega), below_set3' (below_next hJ1.out.bel hB.out.b1) (by omega) _ _ _⟩
        have HS2 := Lib.hid hsn2
        clear hB hZ hsn2
        go_wp2
        refine bodyPost_ret (v := .tuple #[.agg #[.int .i64 a.i, .int .i64 a.o, .slice (some ⟨p, 0, none⟩) n n], .int .i64 0]) (by simp [results, Try.f26, go_sem, r0, r1, r2]) rfl ?_
        rw [← HP0.out]
        exact HFin.out
  · have hne : (ce == 0) = false := by rw [beq_eq_false_iff_ne]; exact hc
    obtain ⟨r0, r1, r2⟩ := set3_reads hJ1.out.bz (.int .i64 0) (.int .i64 0) (.slice none 0 0)
    have hBZ := Lib.hid (hJ1.out.err (.int .i64 0) (.int .i64 0) (.slice none 0 0))
    have HC := Lib.hid hc
    clear hc
    go_wp2
    refine bodyPost_ret (v := .tuple #[.agg #[.int .i64 0, .int .i64 0, .slice none 0 0], .int .i64 ce]) (by simp [results, Try.f26, go_sem, r0, r1, r2]) rfl ?_
    rw [← HP0.out]
    exact Or.inl ⟨HC.out, rfl, hBZ.out⟩
end Go.Proofs.Ytgafpmgdpigliaa
