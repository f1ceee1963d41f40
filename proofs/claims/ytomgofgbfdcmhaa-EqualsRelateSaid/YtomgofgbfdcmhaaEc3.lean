/-
  Contract: the reference's Differ. No statement is proved here.
-/
import Derived.Test.YtomgofgbfdcmhaaEc2
namespace Go.Proofs.Ytomgofgbfdcmhaa
open Go.RowKit
open Mc (Ed Ma Wv)

/-- What the reference's Differ hands back. -/
def DfrP (w : World) (m : Ma) (t : Nat) (e : Ending) (w' : World) : Prop := ∃ (X : Option Addr) (k d : Nat) (is : Bool), e = .returned (.tuple #[.slice X k d, .bool is]) ∧ Rd w' X (Mc.sepw m 0 t) ∧ (Mc.sepw m 0 t).length = k ∧ (is = true ↔ Mc.sl m 0 t ≠ 0) ∧ Below w.heap.size w w'
theorem own_notT {w : World} {base : Nat} {V : Value} {n b : Nat} {e t : TypeId} {sz : Nat} {vs : List Value} {cs : Array Value} {fr : Nat × Nat} (h : w.ownsRow base e sz V n vs) (hc : w.heap[b]? = some (.cells cs t fr)) (ht : t ≠ e) : some b ≠ V.ownBlock := fun e1 => by
  rcases h.2 with ⟨rfl, _⟩ | ⟨g, cap, cur, rfl, _, hg, _⟩
  · cases e1
  · simp [Value.ownBlock] at e1
    subst e1
    rw [hg] at hc
    injection hc with hc
    injection hc with _ hc _
    exact ht hc.symm
/-- Where the loop over the word's symbols stands. -/
def DfS (m : Ma) (k : Nat) (s t : Int) : Prop := k = 0 ∨ ∃ s' t' : Nat, s = s' ∧ t = t' ∧ s' < m.r.length ∧ t' < m.r.length ∧ Mc.sl m s' t' = k
set_option maxRecDepth 100000 in
set_option maxHeartbeats 8000000 in
theorem rdiffer_any (a b : Ma) (i : Nat) (ao bo : Int) (A B : Option Addr) (n c n2 c2 : Nat) (w : World) (va : Mc.Val a) (vb : Mc.Val b) (hia : a.i = i) (hib : b.i = i) (hra : RdR w A a.r) (hn : a.r.length = n) (hrb : RdR w B b.r) (hn2 : b.r.length = n2) (hl : n + n2 ≤ 64) :
    Calls Try.prog 18 #[.agg #[.int .i64 i, .int .i64 ao, .slice A n c], .agg #[.int .i64 i, .int .i64 bo, .slice B n2 c2]] w (DfrP w (Mc.bes a b) n) := by
  have v : Mc.Val (Mc.bes a b) := Mc.bes_val va vb (by rw [hia, hib]) (by rw [hn, hn2]; exact hl)
  have hmi : (Mc.bes a b).i = i := hia
  have hmN : (Mc.bes a b).r.length = n + n2 := by rw [Mc.bes_len, hn, hn2]
  have hmr : (Mc.bes a b).r = a.r ++ b.r.map fun row => row.map (Mc.sh n) := by rw [← hn]; rfl
  have hn0 : 0 < n2 := by rw [← hn2]; exact vb.r0
  have hi16 : i ≤ 16 := by have := va.i1; rw [hia] at this; omega
  have hn1 : n < n + n2 := by omega
  obtain ⟨h, hh⟩ : ∃ h, w.heap.size = h := ⟨_, rfl⟩
  obtain ⟨W1, hW1⟩ : ∃ W1, boxM (boxM w i ao A n c) i bo B n2 c2 = W1 := ⟨_, rfl⟩
  have hB1 : Below w.heap.size w W1 := by rw [← hW1]; exact ((Below.refl _ _).alloc (Nat.le_refl _) _).alloc (by simp) _
  have hM1 : BxM W1 h i ao A n c := by rw [← hW1]; exact (BxM.newE hh i ao A n c).mvB ((Below.refl _ _).alloc (Nat.le_refl _) _)
  have hM2 : BxM W1 (h + 1) i bo B n2 c2 := by rw [← hW1]; exact BxM.newE (by simp [boxM, hh]) i bo B n2 c2
  have HC := Lib.hid (beside_any a b i ao bo A B n c n2 c2 W1 (hra.below hB1) hn (hrb.below hB1) hn2 (by omega) (by omega) ⟨by omega, by omega⟩ (fun row hr => by rw [← hib]; exact vb.len row hr) (fun row hr e he => by
    have h1 := vb.r1
    rcases vb.ok row hr e he with h | h <;> omega))
  obtain ⟨p0, p1, p2⟩ := hM1.cells
  obtain ⟨q0, q1, q2⟩ := hM2.cells
  have HBW := Lib.hid hB1
  obtain ⟨m, hm⟩ : ∃ m, Mc.bes a b = m := ⟨_, rfl⟩
  rw [hm] at v hmi hmN hmr ⊢
  rw [← hmr] at HC
  have HV := Lib.hid v
  have HI := Lib.hid hmi
  have HN := Lib.hid hmN
  clear v hmi hmN hmr hM1 hM2 hB1 hia hib hn hn2 va vb hm hra hrb
  go_enter Try.func18, Try.ntmps18
  go_wp2_with fail
  refine HC.out.mono ?_
  rintro e w1 ⟨B', d, rfl, hrd, hb1⟩
  obtain ⟨N, hNN⟩ : ∃ N, n + n2 = N := ⟨_, rfl⟩
  obtain ⟨O, hO⟩ : ∃ O, max ao bo = O := ⟨_, rfl⟩
  rw [hNN, hO]
  rw [hNN] at HN hn1
  have hN64 : N ≤ 64 := by omega
  have HNN := Lib.hid hNN
  clear hNN hO HC hl hW1
  obtain ⟨g, hg⟩ : ∃ g, w1.heap.size = g := ⟨_, rfl⟩
  obtain ⟨W2, hW2⟩ : ∃ W2, w1.alloc (.cells #[.int .i64 i, .int .i64 O, .slice B' N d] 32) = W2 := ⟨_, rfl⟩
  have hb2 : Below w1.heap.size w1 W2 := by rw [← hW2]; exact (Below.refl _ _).alloc (Nat.le_refl _) _
  have hBX : BxM W2 g i O B' N d := by rw [← hW2]; exact BxM.newE hg i O B' N d
  have hRD := hrd.below hb2
  have HB2 := Lib.hid (below_next (below_next HBW.out hb1) hb2)
  have HBX := Lib.hid hBX
  have HRD := Lib.hid hRD
  have pa2 : W2.cell? ⟨h, 2, none⟩ = some (.slice A n c) := ((below_next hb1 hb2).cell (p := ⟨h, 2, none⟩) (World.block_lt_of_cell? W1 ⟨h, 2, none⟩ p2)).trans p2
  have HW2 := Lib.hid hW2
  clear p0 p1 p2 q0 q1 q2 hrd hb1 hb2 hBX hRD HBW hW2
  go_upto_region 2 with fail
  try rw [hg]
  rw [HW2.out]
  clear HW2 hg
  go_quiet (fail)
  obtain ⟨W3, hW3⟩ : ∃ W3, W2.drewN nq = W3 := ⟨_, rfl⟩
  have hb3 : Below W2.heap.size W2 (W2.drewN nq) := below_drewN' (Below.refl _ _) _
  try rw [hW3]
  rw [hW3] at hb3
  have HBX3 := Lib.hid (HBX.out.mvB hb3)
  have HRD3 := Lib.hid (HRD.out.below hb3)
  have HB3 := Lib.hid (below_next HB2.out hb3)
  clear hb3 hW3 pa2 HBX HRD HB2
  go_wp2_with fail
  go_loopw [9] (fun x wr => ∃ k : Nat, k ≤ N ∧ x = .int .i64 k ∧ Hid (∀ j, j < k → prd (Mc.rnd m j) 0 n = false) ∧ Hid (Below W3.heap.size W3 wr)) (fun x _ => N - (intOf x).toNat)
  case atStart => exact ⟨0, by omega, rfl, fun j h => by omega, Below.refl _ _⟩
  case round =>
    obtain ⟨k, hk, rfl, hun, hbr⟩ := hrel
    have HM := Lib.hid (HBX3.out.mvB hbr.out)
    obtain ⟨m0, m1, m2⟩ := BxM.cells HM.out
    by_cases hkN : k < N
    · have hkd : decide ((k : Int) < N) = true := decide_eq_true (by omega)
      have hkd' : (k : Int) < N := by omega
      go_wp2_with fail
      refine (marked_any m i k O B' N d wr HV.out HI.out HN.out (HRD3.out.below hbr.out) (by omega)).mono ?_
      rintro e w4 ⟨X, q, rfl, hX, hb4⟩
      obtain ⟨b, off, rfl, hb, hXs⟩ := hX (by omega)
      obtain ⟨gb, go, cc, k1, k2, k3⟩ := hXs 0 (by omega)
      have k4 := k3 n hn1
      have HB4 := Lib.hid (below_next hbr.out hb4)
      rw [Nat.add_zero] at k1
      have hb0 : (0 : Int) < N := by omega
      have hnN : (n : Int) < N := by omega
      obtain ⟨f, hf⟩ : ∃ f, prd (Mc.rnd m k) 0 n = f := ⟨_, rfl⟩
      rw [hf] at k4
      have HF := Lib.hid hf
      clear hf hX hXs k3 hb4 hbr m0 m1 m2 HM
      cases f with
      | false =>
        have hun2 : Hid (∀ j, j < k + 1 → prd (Mc.rnd m j) 0 n = false) := fun j hj => by
          rcases Nat.lt_or_ge j k with h1 | h1
          · exact hun.out j h1
          · obtain rfl : j = k := by omega
            exact HF.out
        go_wp2
        go_roundw
        case rel => exact ⟨k + 1, by omega, by go_num, hun2, HB4⟩
        case measure => simp [intOf]; omega
      | true =>
        have h0r : 0 < m.r.length := by rw [HN.out]; omega
        have hnr : n < m.r.length := by rw [HN.out]; exact hn1
        have hslk : Hid (Mc.sl m 0 n = k) := by
          have h1 := (Mc.prd_sl HV.out h0r hnr k).1 HF.out
          show _ = _
          rcases Nat.lt_or_ge (Mc.sl m 0 n) k with h2 | h2
          · have h3 := hun.out _ h2
            have h4 := (Mc.prd_sl HV.out h0r hnr (Mc.sl m 0 n)).2 ⟨h1.1, Nat.le_refl _⟩
            rw [h3] at h4
            cases h4
          · omega
        have hk0 : Hid (k ≠ 0) := by
          have h1 := (Mc.prd_sl HV.out h0r hnr k).1 HF.out
          show _ ≠ _
          have := hslk.out
          omega
        have hkNe : ((k : Int) == N) = false := by rw [beq_eq_false_iff_ne]; omega
        have HM4 := Lib.hid (HBX3.out.mvB HB4.out)
        obtain ⟨m0, m1, m2⟩ := BxM.cells HM4.out
        go_wp2_with fail
        obtain ⟨i0, hi0, hz0, hz1, hz2⟩ := info_parts int_info
        have HR4 := Lib.hid (HRD3.out.below HB4.out)
        have HB34 := Lib.hid (below_next HB3.out HB4.out)
        clear m0 m1 m2 k1 k2 k4 hb hun HF HBX3 HRD3 HB3 HB4 hkd hkd' hb0 hnN hkNe
        go_loopw [7, 8, 9, 10] (fun us ut uk uV wr => ∃ (q : Nat) (si ti : Int) (xs : List Int), us = .int .i64 si ∧ ut = .int .i64 ti ∧ uk = .int .i64 q ∧ q ≤ 64 ∧ Hid (DfS m q si ti) ∧ Hid (xs ++ Mc.sw m q si.toNat ti.toNat = Mc.sepw m 0 n) ∧ Hid (wr.ownsRow w4.heap.size 3 1 uV xs.length (ints xs)) ∧ Hid (Below w4.heap.size w4 wr)) (fun _ _ u _ _ => (intOf u).toNat)
        case atStart =>
          refine ⟨k, 0, n, [], rfl, rfl, rfl, by omega, Or.inr ⟨0, n, rfl, rfl, h0r, hnr, hslk.out⟩, ?_, World.ownsRow_nil _ _ _ _, Below.refl _ _⟩
          show [] ++ Mc.sw m k (0 : Int).toNat (n : Int).toNat = _
          rw [← hslk.out]
          rfl
        case round =>
          obtain ⟨q, si, ti, xs, rfl, rfl, rfl, hq64, hst, hpre, hown, hbr⟩ := hrel
          have HMr := Lib.hid (HM4.out.mvB hbr.out)
          obtain ⟨m0, m1, m2⟩ := BxM.cells HMr.out
          by_cases hq0 : q = 0
          · subst hq0
            have hws : Hid (xs = Mc.sepw m 0 n) := by
              have h1 := hpre.out
              rw [show Mc.sw m 0 si.toNat ti.toNat = [] from rfl, List.append_nil] at h1
              exact h1
            have hfin := Lib.hid (below_next HB34.out hbr.out)
            rcases hown.out.2 with ⟨rfl, hx0⟩ | ⟨gv, cv, cur, rfl, _⟩
            · exfalso
              have h1 := congrArg List.length hws.out
              rw [Mc.sepw_len, hslk.out] at h1
              exact hk0.out (by omega)
            · have hrd := Lib.hid (Rd.of_own hown.out)
              clear hown hbr HMr m0 m1 m2 hpre hst
              go_wp2
              go_ret2
              exact ⟨_, _, _, true, rfl, by rw [← hws.out]; exact hrd.out, by rw [← hws.out], ⟨fun _ => by rw [hslk.out]; exact hk0.out, fun _ => rfl⟩, hfin.out⟩
          · obtain ⟨L, rfl⟩ : ∃ L, q = L + 1 := ⟨q - 1, by omega⟩
            obtain ⟨s', t', rfl, rfl, hs, ht, hsl⟩ := hst.out.resolve_left hq0
            have hslL : Hid (Mc.sl m s' t' = L + 1) := hsl
            rw [HN.out] at hs ht
            have hpos : (0 : Int) < ((L + 1 : Nat) : Int) := by omega
            have hsub : ((L + 1 : Nat) : Int) - 1 = L := by omega
            have hwr : IntKind.i64.wrap (((L + 1 : Nat) : Int) - 1) = L := by rw [hsub]; exact IntWalk.i64_in _ (by omega)
            clear hsl hst hq0
            go_wp2_with fail
            refine (marked_any m i L O B' N d wr HV.out HI.out HN.out (HR4.out.below hbr.out) (by omega)).mono ?_
            rintro e w5 ⟨X, qq, rfl, hX, hb5⟩
            obtain ⟨xb, xoff, rfl, hxb, hXs⟩ := hX (by omega)
            have HX := Lib.hid hXs
            have HB45 := Lib.hid (below_next hbr.out hb5)
            have hown5 := Lib.hid (own_below hown.out hb5)
            have hXL : xs.length ≤ 64 := by have h1 := congrArg List.length hpre.out; rw [List.length_append, Mc.sepw_len, hslk.out] at h1; omega
            obtain ⟨wo, rfl⟩ : ∃ wo : World, wo = wr := ⟨_, rfl⟩
            clear hX hXs hb5 m0 m1 m2 HMr hown hbr
            go_wp2_with fail
            go_loopw [7, 8, 10, 12] (fun us ut uV uj wr => ∃ j : Nat, j ≤ i ∧ us = .int .i64 s' ∧ ut = .int .i64 t' ∧ uV = u10 ∧ uj = .int .i64 j ∧ Hid (∀ j', j' < j → Mc.hit m s' t' L j' = false) ∧ Hid (Below w5.heap.size w5 wr)) (fun _ _ _ u _ => i - (intOf u).toNat)
            case atStart => exact ⟨0, by omega, rfl, rfl, rfl, rfl, fun j' h => by omega, Below.refl _ _⟩
            case round =>
              obtain ⟨j, hj, rfl, rfl, rfl, rfl, hno, hbr⟩ := hrel
              have hb4r := below_next HB45.out hbr.out
              have hM := Lib.hid (HM4.out.mvB hb4r)
              obtain ⟨m0, m1, m2⟩ := BxM.cells hM.out
              by_cases hji : j < i
              · have hji' : decide ((j : Int) < i) = true := decide_eq_true (by omega)
                obtain ⟨b1, o1, B1, c1, r1n, row1, eB1, hb1, hc1, _, _, _, hp1, hl1, hr1⟩ := (HR4.out.below hb4r).at_ (k := s') (by rw [HN.out]; exact hs)
                obtain ⟨b2, o2, B2, c2', r2n, row2, eB2, hb2, hc2, _, _, _, hp2, hl2, hr2⟩ := (HR4.out.below hb4r).at_ (k := t') (by rw [HN.out]; exact ht)
                subst eB1
                injection eB2 with e2
                injection e2 with e2 e3
                subst e2 e3
                obtain rfl : i = r1n := by have := HV.out.len row1 (List.mem_of_getElem? hr1.out); have := hl1.out; have := HI.out; omega
                obtain rfl : i = r2n := by have := HV.out.len row2 (List.mem_of_getElem? hr2.out); have := hl2.out; have := HI.out; omega
                obtain ⟨q1, r1, x0, x1, rfl, hq1, d3, d4, hxe⟩ := hp1.at_ (k := j) (by have := hl1.out; omega)
                obtain ⟨q2, r2, y0, y1, rfl, hq2, d5, d6, hye⟩ := hp2.at_ (k := j) (by have := hl2.out; omega)
                have z0 : g < wr.heap.size := heap_lt hM.out
                go_upto_region 15 with fail
                go_cut [13, 14] from 59 to 74 (fun u v wx => ∃ gx gy, u = .pointer (some ⟨gx, 0, none⟩) ∧ v = .pointer (some ⟨gy, 0, none⟩) ∧ Hid (BxE wx gx x0 x1) ∧ Hid (BxE wx gy y0 y1) ∧ Hid (Below wr.heap.size wr wx))
                case first =>
                  go_region
                  all_goals
                    go_wp2_with fail
                    go_meet
                    first
                      | exact ⟨_, _, rfl, rfl, (two_edges wr x0 x1 y0 y1).1, (two_edges wr x0 x1 y0 y1).2.1, (two_edges wr x0 x1 y0 y1).2.2⟩
                      | exact ⟨_, _, rfl, rfl, (two_edges wr y0 y1 x0 x1).2.1, (two_edges wr y0 y1 x0 x1).1, (two_edges wr y0 y1 x0 x1).2.2⟩
                case rest =>
                obtain ⟨gx, gy, rfl, rfl, HGX0, HGY0, hbc⟩ := hcut
                have hbr5 := Lib.hid (below_next hbr.out hbc.out)
                have hbr2 := Lib.hid (below_next hb4r hbc.out)
                have hown2 := Lib.hid (own_below hown5.out hbr5.out)
                obtain ⟨u0, u1, _, _⟩ := HGX0.out.cells
                obtain ⟨u2, u3, _, _⟩ := HGY0.out.cells
                have nxx : Hid (Mc.nx m s' j = (x0, x1)) := Mc.nx_at hr1.out hxe.out
                have nxy : Hid (Mc.nx m t' j = (y0, y1)) := Mc.nx_at hr2.out hye.out
                have hdc : Hid (Mc.dfC m L (x0, x1) (y0, y1) = Mc.hit m s' t' L j) := by
                  have h1 := Mc.dfC_hit HV.out (s := s') (t := t') (by rw [HN.out]; exact hs) (by rw [HN.out]; exact ht) hslL.out (i := j) (by rw [HI.out]; omega)
                  rw [nxx.out, nxy.out] at h1
                  exact h1
                have hX1 : Hid (0 ≤ x0 → x0 < N) := fun h => by
                  obtain ⟨a, _⟩ := Mc.nx_st HV.out (s := (s' : Int)) (i := (j : Int)) (Or.inr ⟨by omega, by have := HN.out; omega⟩) ⟨by omega, by have := HI.out; omega⟩
                  rw [nxx.out] at a
                  have := HN.out
                  rcases a with a | ⟨_, a⟩ <;> simp at a <;> omega
                have hY1 : Hid (0 ≤ y0 → y0 < N) := fun h => by
                  obtain ⟨a, _⟩ := Mc.nx_st HV.out (s := (t' : Int)) (i := (j : Int)) (Or.inr ⟨by omega, by have := HN.out; omega⟩) ⟨by omega, by have := HI.out; omega⟩
                  rw [nxy.out] at a
                  have := HN.out
                  rcases a with a | ⟨_, a⟩ <;> simp at a <;> omega
                clear hbc hM hb4r hbr d3 d4 d5 d6 z0 hc1 hc2 m0 m1 m2 hp1 hp2 hq1 hq2 hb1 hb2
                by_cases ho : x1 = y1
                · have ho' : (x1 == y1) = true := by simp [ho]
                  have ho2 : (x1 != y1) = false := by simp [ho]
                  by_cases hx : 0 ≤ x0
                  · have hx' : decide (0 ≤ x0) = true := decide_eq_true hx
                    by_cases hy : 0 ≤ y0
                    · have hy' : decide (0 ≤ y0) = true := decide_eq_true hy
                      obtain ⟨x0, rfl⟩ : ∃ k : Nat, x0 = k := ⟨x0.toNat, by omega⟩
                      obtain ⟨y0, rfl⟩ : ∃ k : Nat, y0 = k := ⟨y0.toNat, by omega⟩
                      have hxn : x0 < N := by have := hX1.out hx; omega
                      have hyn : y0 < N := by have := hY1.out hy; omega
                      obtain ⟨gb', go', cc', k1, k2, k3⟩ := HX.out x0 hxn
                      have e1 := (hbr5.out.cell (p := ⟨xb, xoff + x0, none⟩) hxb).trans k1
                      have e2 := (hbr5.out.cell (p := ⟨gb', go' + y0, none⟩) k2).trans (k3 y0 hyn)
                      obtain ⟨f, hf⟩ : ∃ f, prd (Mc.rnd m L) x0 y0 = f := ⟨_, rfl⟩
                      rw [hf] at e2
                      have HF := Lib.hid hf
                      clear hf k1 k2 k3
                      cases f with
                      | true =>
                        have hdt : Hid (Mc.hit m s' t' L j = true) := by show _ = _; rw [← hdc.out]; unfold Mc.dfC; simp [HF.out]
                        have hsw := Mc.sw_step HV.out (s := s') (t := t') (by rw [HN.out]; exact hs) (by rw [HN.out]; exact ht) hslL.out (i := j) (by rw [HI.out]; omega) hdt.out hno.out
                        obtain ⟨hsw1, hsw2⟩ := hsw
                        rw [nxx.out, nxy.out] at hsw1 hsw2
                        have HS1 : Hid ((xs ++ [(j : Int)]) ++ Mc.sw m L ((x0 : Int)).toNat ((y0 : Int)).toNat = Mc.sepw m 0 n) := by
                          have h1 := hpre.out
                          rw [Int.toNat_natCast, Int.toNat_natCast, hsw1] at h1
                          show _ = _
                          rw [← h1]
                          simp
                        have HS2 : Hid (DfS m L (x0 : Int) (y0 : Int)) := hsw2
                        clear hsw1 hsw2 nxx nxy hdc hdt hno
                        go_wp2_with fail
                        go_quiet (fail)
                        obtain ⟨wq, hwq⟩ : ∃ wq, wc.drewN nq = wq := ⟨_, rfl⟩
                        have hbq := below_drewN' (Below.refl wc.heap.size wc) nq
                        try rw [hwq]
                        rw [hwq] at hbq
                        clear hwq
                        have HBQ := Lib.hid (below_next hbr2.out hbq)
                        have HOQ := Lib.hid (own_below hown2.out hbq)
                        have HGX : Hid (BxE wq gx (x0 : Int) x1) := (hbq.block gx (heap_lt HGX0.out)).trans HGX0.out
                        have HGY : Hid (BxE wq gy (y0 : Int) y1) := (hbq.block gy (heap_lt HGY0.out)).trans HGY0.out
                        have hszq : w4.heap.size ≤ wq.heap.size := HBQ.out.size
                        have hm1 : xs.length + 1 ≤ maxLen := by unfold maxLen; omega
                        have hm2 : (xs.length + 1) * 8 ≤ 140737488355328 := by omega
                        have hc1 := Lib.hid (cell_one_new wq (t := 3) (.int .i64 (j : Int)))
                        have hc2 : Hid (∀ u ∈ ([.int .i64 (j : Int)] : List Value), u.oneCell' = true) := fun u hu => by simp at hu; subst hu; rfl
                        have hc5 : w4.heap.size ≤ (wq.alloc (.cells #[.int .i64 (j : Int)] 3)).heap.size := by rw [World.size_alloc]; omega
                        clear u0 u1 u2 u3 hbq hown2 hbr2
                        go_wp2_with (at_builtin; refine wpList_append_own _ rfl _ _ 35 rfl w4.heap.size 3 i0 (.int .i64 0) 1 8 Try.underlying35 hi0 hz0 hz1 hz2 rfl (by decide) _ _ _ rfl (HOQ.out.alloc _) ⟨wq.heap.size, 0, none⟩ 1 1 [.int .i64 (j : Int)] rfl rfl hc1.out hc2.out hm1 hm2 hc5 ?_)
                        intro v1 w6 hown1 hg1 _
                        obtain ⟨hown3, hbr3⟩ := own_step HBQ.out hszq HOQ.out hown1 hg1
                        have hkx : ∀ G x y, BxE wq G x y → w6.heap[G]? = wq.heap[G]? := fun G x y hG => (hg1.block G (by have := heap_lt hG; rw [World.size_alloc]; omega) (own_notT HOQ.out hG (by decide))).trans (Below.heap_alloc _ _ _ (heap_lt hG))
                        obtain ⟨f0, f1, _, _⟩ := BxE.cells ((hkx gx _ _ HGX.out).trans HGX.out)
                        obtain ⟨f2, f3, _, _⟩ := BxE.cells ((hkx gy _ _ HGY.out).trans HGY.out)
                        have HO6 := Lib.hid hown3
                        have HB6 := Lib.hid hbr3
                        have hl1 : Hid ((xs ++ [(j : Int)]).length = xs.length + 1) := by show _ = _; rw [List.length_append]; rfl
                        clear hown1 hg1 hkx hown3 hbr3 hc1 hc2 hc5 hm1 hm2
                        go_wp2_with fail
                        go_quiet (fail)
                        obtain ⟨w7, hw7⟩ : ∃ w7, w6.drewN nq = w7 := ⟨_, rfl⟩
                        have hb7 := below_drewN' (Below.refl w6.heap.size w6) nq
                        try rw [hw7]
                        rw [hw7] at hb7
                        clear hw7
                        have HO7 : Hid (w7.ownsRow w4.heap.size 3 1 v1 (xs ++ [(j : Int)]).length (ints (xs ++ [(j : Int)]))) := by
                          show World.ownsRow _ _ _ _ _ _ _
                          rw [hl1.out]
                          exact own_below HO6.out hb7
                        have HB7 := Lib.hid (below_next HB6.out hb7)
                        clear hb7 HO6 HB6 f0 f1 f2 f3
                        go_wp2
                        go_roundw
                        case rel => exact ⟨L, (x0 : Int), (y0 : Int), xs ++ [(j : Int)], rfl, rfl, rfl, by omega, HS2, HS1, HO7, HB7⟩
                        case measure => simp [intOf]
                      | false =>
                        have hno2 : Hid (∀ j', j' < j + 1 → Mc.hit m s' t' L j' = false) := fun j' hj' => by
                          rcases Nat.lt_or_ge j' j with h1 | h1
                          · exact hno.out j' h1
                          · obtain rfl : j' = j := by omega
                            rw [← hdc.out]
                            unfold Mc.dfC
                            simp [ho, HF.out]
                        clear hdc nxx nxy hno
                        go_wp2_with fail
                        go_quiet (fail)
                        go_wp2_with fail
                        go_roundw
                        case rel => exact ⟨j + 1, by omega, rfl, rfl, rfl, by go_num, hno2, Lib.hid (below_drewN' hbr5.out _)⟩
                        case measure => simp [intOf]; omega
                    · have hy' : decide (0 ≤ y0) = false := decide_eq_false hy
                      have hno2 : Hid (∀ j', j' < j + 1 → Mc.hit m s' t' L j' = false) := fun j' hj' => by
                        rcases Nat.lt_or_ge j' j with h1 | h1
                        · exact hno.out j' h1
                        · obtain rfl : j' = j := by omega
                          rw [← hdc.out]
                          unfold Mc.dfC
                          simp [ho, hy]
                      clear hdc nxx nxy hno
                      go_wp2_with fail
                      go_quiet (fail)
                      go_wp2_with fail
                      go_roundw
                      case rel => exact ⟨j + 1, by omega, rfl, rfl, rfl, by go_num, hno2, Lib.hid (below_drewN' hbr5.out _)⟩
                      case measure => simp [intOf]; omega
                  · have hx' : decide (0 ≤ x0) = false := decide_eq_false hx
                    have hno2 : Hid (∀ j', j' < j + 1 → Mc.hit m s' t' L j' = false) := fun j' hj' => by
                      rcases Nat.lt_or_ge j' j with h1 | h1
                      · exact hno.out j' h1
                      · obtain rfl : j' = j := by omega
                        rw [← hdc.out]
                        unfold Mc.dfC
                        simp [ho, hx]
                    clear hdc nxx nxy hno
                    go_wp2_with fail
                    go_quiet (fail)
                    go_wp2_with fail
                    go_roundw
                    case rel => exact ⟨j + 1, by omega, rfl, rfl, rfl, by go_num, hno2, Lib.hid (below_drewN' hbr5.out _)⟩
                    case measure => simp [intOf]; omega
                · have ho' : (x1 == y1) = false := by simp [ho]
                  have ho2 : (x1 != y1) = true := by simp [ho]
                  have hdt : Hid (Mc.hit m s' t' L j = true) := by show _ = _; rw [← hdc.out]; unfold Mc.dfC; simp [ho]
                  have hsw := Mc.sw_step HV.out (s := s') (t := t') (by rw [HN.out]; exact hs) (by rw [HN.out]; exact ht) hslL.out (i := j) (by rw [HI.out]; omega) hdt.out hno.out
                  obtain ⟨hsw1, hsw2⟩ := hsw
                  rw [nxx.out, nxy.out] at hsw1 hsw2
                  have HS1 : Hid ((xs ++ [(j : Int)]) ++ Mc.sw m L (x0).toNat (y0).toNat = Mc.sepw m 0 n) := by
                    have h1 := hpre.out
                    rw [Int.toNat_natCast, Int.toNat_natCast, hsw1] at h1
                    show _ = _
                    rw [← h1]
                    simp
                  have HS2 : Hid (DfS m L x0 y0) := hsw2
                  clear hsw1 hsw2 nxx nxy hdc hdt hno
                  go_wp2_with fail
                  go_quiet (fail)
                  obtain ⟨wq, hwq⟩ : ∃ wq, wc.drewN nq = wq := ⟨_, rfl⟩
                  have hbq := below_drewN' (Below.refl wc.heap.size wc) nq
                  try rw [hwq]
                  rw [hwq] at hbq
                  clear hwq
                  have HBQ := Lib.hid (below_next hbr2.out hbq)
                  have HOQ := Lib.hid (own_below hown2.out hbq)
                  have HGX : Hid (BxE wq gx x0 x1) := (hbq.block gx (heap_lt HGX0.out)).trans HGX0.out
                  have HGY : Hid (BxE wq gy y0 y1) := (hbq.block gy (heap_lt HGY0.out)).trans HGY0.out
                  have hszq : w4.heap.size ≤ wq.heap.size := HBQ.out.size
                  have hm1 : xs.length + 1 ≤ maxLen := by unfold maxLen; omega
                  have hm2 : (xs.length + 1) * 8 ≤ 140737488355328 := by omega
                  have hc1 := Lib.hid (cell_one_new wq (t := 3) (.int .i64 (j : Int)))
                  have hc2 : Hid (∀ u ∈ ([.int .i64 (j : Int)] : List Value), u.oneCell' = true) := fun u hu => by simp at hu; subst hu; rfl
                  have hc5 : w4.heap.size ≤ (wq.alloc (.cells #[.int .i64 (j : Int)] 3)).heap.size := by rw [World.size_alloc]; omega
                  clear u0 u1 u2 u3 hbq hown2 hbr2
                  go_wp2_with (at_builtin; refine wpList_append_own _ rfl _ _ 35 rfl w4.heap.size 3 i0 (.int .i64 0) 1 8 Try.underlying35 hi0 hz0 hz1 hz2 rfl (by decide) _ _ _ rfl (HOQ.out.alloc _) ⟨wq.heap.size, 0, none⟩ 1 1 [.int .i64 (j : Int)] rfl rfl hc1.out hc2.out hm1 hm2 hc5 ?_)
                  intro v1 w6 hown1 hg1 _
                  obtain ⟨hown3, hbr3⟩ := own_step HBQ.out hszq HOQ.out hown1 hg1
                  have hkx : ∀ G x y, BxE wq G x y → w6.heap[G]? = wq.heap[G]? := fun G x y hG => (hg1.block G (by have := heap_lt hG; rw [World.size_alloc]; omega) (own_notT HOQ.out hG (by decide))).trans (Below.heap_alloc _ _ _ (heap_lt hG))
                  obtain ⟨f0, f1, _, _⟩ := BxE.cells ((hkx gx _ _ HGX.out).trans HGX.out)
                  obtain ⟨f2, f3, _, _⟩ := BxE.cells ((hkx gy _ _ HGY.out).trans HGY.out)
                  have HO6 := Lib.hid hown3
                  have HB6 := Lib.hid hbr3
                  have hl1 : Hid ((xs ++ [(j : Int)]).length = xs.length + 1) := by show _ = _; rw [List.length_append]; rfl
                  clear hown1 hg1 hkx hown3 hbr3 hc1 hc2 hc5 hm1 hm2
                  go_wp2_with fail
                  go_quiet (fail)
                  obtain ⟨w7, hw7⟩ : ∃ w7, w6.drewN nq = w7 := ⟨_, rfl⟩
                  have hb7 := below_drewN' (Below.refl w6.heap.size w6) nq
                  try rw [hw7]
                  rw [hw7] at hb7
                  clear hw7
                  have HO7 : Hid (w7.ownsRow w4.heap.size 3 1 v1 (xs ++ [(j : Int)]).length (ints (xs ++ [(j : Int)]))) := by
                    show World.ownsRow _ _ _ _ _ _ _
                    rw [hl1.out]
                    exact own_below HO6.out hb7
                  have HB7 := Lib.hid (below_next HB6.out hb7)
                  clear hb7 HO6 HB6 f0 f1 f2 f3
                  go_wp2
                  go_roundw
                  case rel => exact ⟨L, x0, y0, xs ++ [(j : Int)], rfl, rfl, rfl, by omega, HS2, HS1, HO7, HB7⟩
                  case measure => simp [intOf]
              · exfalso
                obtain ⟨j', h1, h2⟩ := Mc.hit_ex HV.out (s := s') (t := t') (by rw [HN.out]; exact hs) (by rw [HN.out]; exact ht) hslL.out
                rw [HI.out] at h1
                rw [hno.out j' (by omega)] at h2
                cases h2
    · obtain rfl : k = N := by omega
      have hkd : decide ((k : Int) < k) = false := decide_eq_false (by omega)
      have hlt : ¬ ((k : Int) < k) := by omega
      have h0r : 0 < m.r.length := by rw [HN.out]; omega
      have hnr : n < m.r.length := by rw [HN.out]; exact hn1
      have hsl0 : Hid (Mc.sl m 0 n = 0) := by
        show _ = _
        rcases Nat.eq_zero_or_pos (Mc.sl m 0 n) with h1 | h1
        · exact h1
        · have h2 := Mc.sl_lt HV.out h0r hnr
          rw [HN.out] at h2
          have h3 := hun.out _ h2
          have h4 := (Mc.prd_sl HV.out h0r hnr (Mc.sl m 0 n)).2 ⟨by omega, Nat.le_refl _⟩
          rw [h3] at h4
          cases h4
      have hw0 : Hid (Mc.sepw m 0 n = []) := by
        show _ = _
        exact List.eq_nil_of_length_eq_zero (by rw [Mc.sepw_len]; exact hsl0.out)
      have hfin := Lib.hid (below_next HB3.out hbr.out)
      clear hbr HM
      go_wp2
      go_ret2
      exact ⟨none, 0, 0, false, rfl, by rw [hw0.out]; exact Rd.nil_, by rw [hw0.out]; rfl, ⟨(fun h => by cases h), fun h => absurd hsl0.out h⟩, hfin.out⟩
end Go.Proofs.Ytomgofgbfdcmhaa
