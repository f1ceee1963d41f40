/-
  Contracts: refines.refined.
-/
import Derived.Test.YtnodnfailjmpeaaRa2
namespace Go.Proofs.Ytnodnfailjmpeaa
open Go.RowKit Go.Maps
open Mc (Ed Ma)

set_option maxRecDepth 100000 in
set_option maxHeartbeats 1000000 in
theorem refined_any (m : Ma) (i o : Int) (R P : Option Addr) (n c d : Nat) (p : List Int) (w : World) (v : Mc.Val m) (hi : m.i = i) (hr : RdR w R m.r) (hn : m.r.length = n) (hp : Rd w P p) (hl : p.length = n) (hpv : ∀ z ∈ p, -1 ≤ z ∧ z ≤ 1000) :
    Calls Try.prog 120 #[.agg #[.int .i64 i, .int .i64 o, .slice R n c], .slice P n d] w fun e w' => ∃ g, e = .returned (.slice (some ⟨g, 0, none⟩) n n) ∧ w.heap.size ≤ g ∧ g < w'.heap.size ∧ Rd w' (some ⟨g, 0, none⟩) (Mc.rfd m p) ∧ Below w.heap.size w w' := by
  have hmm := @run_makeMap Try.prog
  obtain ⟨zs, hzs⟩ : ∃ zs, Mc.fs m p = zs := ⟨_, rfl⟩
  have hzl : Hid (zs.length = n) := by show _ = _; rw [← hzs, Mc.fs_len, hn]
  have ok : Hid (KOk (kst m p) zs) := by show KOk _ _; rw [← hzs]; exact kst_ok v hpv
  have hfin : Hid (M.ofL zs = Mc.rfd m p) := by show _ = _; rw [← hzs]; rfl
  have hkey : Hid (∀ s, s < n → ∃ C, C.size = 33 ∧ C.all (·.oneCell') = true ∧ (ints (Mc.sgR m p s m.i.toNat)).toArray = C ∧ keyOf Try.prog 187 (.agg C) = some (kst m p (M.gz zs s))) := fun s hs => by
    refine ⟨_, by rw [ints_arr, Mc.sgR_len], ints_cells _, rfl, ?_⟩
    rw [← hzs, ← kst_at v p (by omega)]
    have := v.i0
    exact klS_key _ (Mc.sgR_len _ _ _ _) (Mc.sgR_i64 v hpv (by omega) (by omega))
  have hn64 : n ≤ 64 := by have := v.r1; omega
  have HPV := Lib.hid hpv
  clear hzs hpv
  go_enter Try.func120, Try.ntmps120
  go_wp2_with (first
    | (at_make; refine wpList_make_ints7 _ rfl _ _ rfl _ n rfl rfl rfl (by omega) ?_)
    | fail)
  intro w1 hB1 hb1
  have hmap0 : w1.ownsMap Try.prog 187 (plainElem (H := Unit) Try.prog 3) (w.heap.size + 1) 0 (.map []) := by
    have h0 := World.ownsMap_made (H := Unit) (w.alloc (.cells #[.int .i64 i, .int .i64 o, .slice R n c] 24)) Try.prog 187 (plainElem (H := Unit) Try.prog 3)
    rw [World.size_alloc] at h0
    obtain ⟨es, cl, h1, h2⟩ := h0
    exact ⟨es, cl, (hb1.block _ (by simp)).trans h1, h2⟩
  have hbw1 : Below w.heap.size w w1 := (((Below.refl _ _).alloc (Nat.le_refl _) _).alloc (by simp) _).trans (hb1.mono (by omega))
  have hM1 : BxM w1 w.heap.size i o R n c := (hb1.block _ (by omega)).trans ((BxM.new w i o R n c).mvB ((Below.refl _ _).alloc (Nat.le_refl _) _))
  have hown1 := hB1.out.own (B := w.heap.size + 1 + 1) (n := n) (by simp) (by simp) (by unfold maxLen; omega)
  obtain ⟨cur0, hcur0⟩ : ∃ cur0, List.replicate n (0 : Int) = cur0 := ⟨_, rfl⟩
  rw [hcur0] at hown1
  have hC0 : Hid (OfS zs 0 cur0) := by have := OfS.start zs; rw [hzl.out, hcur0] at this; exact this
  have hHM := Lib.hid hM1
  have hHB := Lib.hid hbw1
  have hsz1 : w.heap.size + 1 + 1 < w1.heap.size := by have := hB1.out.lt; exact this
  clear hcur0 hB1 hb1 hM1 hbw1
  go_wp2_with fail
  go_loopw [17] (fun x wr => ∃ (k : Nat) (D : DataW Unit) (cur : List Int), k ≤ n ∧ x = .int .i64 k ∧ wr.ownsMap Try.prog 187 (plainElem (H := Unit) Try.prog 3) (w.heap.size + 1) k D ∧ Hid (MpK (kst m p) zs D (zs.take k)) ∧
    wr.ownsRow (w.heap.size + 1 + 1) 3 1 (.slice (some ⟨w.heap.size + 1 + 1, 0, none⟩) n n) n (ints cur) ∧ Hid (OfS zs k cur) ∧ Hid (BxM wr w.heap.size i o R n c) ∧ Hid (Below w.heap.size w wr) ∧ w.heap.size + 1 + 1 < wr.heap.size) (fun x _ => n - (intOf x).toNat)
  case atStart => exact ⟨0, _, cur0, Nat.zero_le _, rfl, hmap0, MpK.start, hown1, hC0, hHM, hHB, hsz1⟩
  case round =>
    clear hmap0 hown1 hC0 hHM hHB hsz1
    obtain ⟨k, D, cur, hk, rfl, hmap, hD, hown, hC, hM, hbr, hsz⟩ := hrel
    by_cases hlt : k < n
    · have hrw := hr.below hbr.out
      have hpw := hp.below hbr.out
      obtain ⟨C, hC33, hCC, hCe, hCk⟩ := hkey.out k hlt
      have HS := sign_any m i o R P n c d k p wr v hi hrw hn hpw hl hlt
      rw [hCe] at HS
      have H33 := Lib.hid hC33
      have HCC := Lib.hid hCC
      clear hCe hC33 hCC hrw hpw
      obtain ⟨y0, y1, y2⟩ := BxM.cells hM.out
      go_wp2_with fail
      clear y0 y1 y2
      refine HS.mono ?_
      rintro e w1 ⟨rfl, hb1⟩
      clear HS
      have hz1 := hb1.size
      have hA : Hid (∀ O, (w1.alloc O).heap[w1.heap.size]? = some O) := fun O => heap_alloc_new w1 O
      go_upto_region 7 with (first
        | (refine wpList_store_row rfl 187 _ _ rfl w1.heap.size C rfl rfl 187 _ (hA.out _) (by rw [H33.out]; exact sig_info) (by rw [H33.out]; rfl) HCC.out ?_; rw [World.setRow_alloc_new])
        | fail)
      obtain ⟨X, hX⟩ : ∃ X, w1.alloc (.cells C 187) = X := ⟨_, rfl⟩
      try rw [hX]
      have qX : Below wr.heap.size wr X := by rw [← hX]; exact hb1.alloc hz1 _
      have GX : Hid (X.heap[w1.heap.size]? = some (.cells C 187 (0, 0))) := by show _ = _; rw [← hX]; exact hA.out _
      have hmapX := hmap.kept (grown_below qX) (by simp)
      have hownX := hown.kept (grown_below qX) (.inr (by simp [Value.ownBlock]))
      have hMX := Lib.hid (hM.out.mvB qX)
      have hbX := Lib.hid (below_next hbr.out qX)
      have hzX : w.heap.size + 1 + 1 < w1.heap.size := by omega
      have hzX2 : w1.heap.size < X.heap.size := by rw [← hX]; simp
      clear hX hA hmap hown hM hbr hb1 qX
      obtain ⟨z, hz⟩ : ∃ z, M.gz zs k = z := ⟨_, rfl⟩
      rw [hz] at hCk
      have hzU : Hid (z ∈ zs) := by show z ∈ zs; rw [← hz]; exact M.gz_mem (by have := hzl.out; omega)
      have hzt : Hid (zs.take (k + 1) = zs.take k ++ [z]) := by show _ = _; rw [M.take_gz (by have := hzl.out; omega), hz]
      clear hz
      have HCk := Lib.hid hCk
      clear hCk
      by_cases hin : z ∈ zs.take k
      · have hsn : Maps.has D (kst m p z) = true := by rw [hD.out.has z hzU.out]; simpa using hin
        have hD' : Hid (MpK (kst m p) zs D (zs.take (k + 1))) := by rw [Hid, hzt.out]; exact hD.out.old hin
        have hstep : Hid (M.ofL (zs.take (k + 1)) = M.ofL (zs.take k) ++ [(M.nu (zs.take k) z : Int)]) := by
          rw [Hid, hzt.out, M.ofL_snoc, M.nu_old hin]
        have hgot := fun c hat => hD.out.got (c := c) hin hat
        have HG := Lib.hid hgot
        clear hgot
        have HSN := Lib.hid hsn
        clear hsn
        obtain ⟨x, hcx, hfz, _⟩ := own_cl hownX hlt
        go_wp2_with (first
          | (refine wpList_load_row rfl 187 _ rfl w1.heap.size rfl 187 C (0, 0) _ GX.out Try.underlying187 rfl (by rw [H33.out]; exact sig_info) ?_)
          | (at_lookup; refine wpList_lookup_own_ok_int _ rfl _ _ 184 rfl 187 3 .i64 lawS Try.underlying184 Try.underlying3 (zeroI7 _) (w.heap.size + 1) k D rfl hmapX _ _ rfl HCk.out ?_; intro c2 hat hwc; obtain rfl := HG.out _ hat; clear hat hwc; rw [HSN.out])
          | fail)
        go_roundw
        case rel =>
          refine ⟨k + 1, D, _, by omega, by go_num, (hmapX.mono (Nat.le_succ k)).kept (own_grown hownX k _) (by simp), hD', own_set hownX k _, hC.out.step (by have := hzl.out; omega) hstep.out, hMX.out.farS (by omega) _, hbX.out.setCell (by simp; omega) _, by simp; omega⟩
        case measure => simp [intOf]; omega
      · have hsn : Maps.has D (kst m p z) = false := by rw [hD.out.has z hzU.out]; simpa using hin
        have hD' : Hid (MpK (kst m p) zs (D.put (kst m p z) (.lit (.int .i64 (M.cnt (zs.take k) : Int)))) (zs.take (k + 1))) := by rw [Hid, hzt.out]; exact hD.out.new ok.out (hmapX.tidy lawS) hzU.out hin
        have hstep : Hid (M.ofL (zs.take (k + 1)) = M.ofL (zs.take k) ++ [(M.cnt (zs.take k) : Int)]) := by
          rw [Hid, hzt.out, M.ofL_snoc, M.nu_new hin]
        have hsize : Maps.size D = M.cnt (zs.take k) := hD.out.size
        have hcl := M.cnt_take_le zs k
        have HSN := Lib.hid hsn
        clear hsn
        have hwm := wf_i64_7 (z := (M.cnt (zs.take k) : Int)) (by omega) (by omega)
        go_wp2_with (first
          | (refine wpList_load_row rfl 187 _ rfl w1.heap.size rfl 187 C (0, 0) _ GX.out Try.underlying187 rfl (by rw [H33.out]; exact sig_info) ?_)
          | (at_lookup; refine wpList_lookup_own_ok_int _ rfl _ _ 184 rfl 187 3 .i64 lawS Try.underlying184 Try.underlying3 (zeroI7 _) (w.heap.size + 1) k D rfl hmapX _ _ rfl HCk.out ?_; intro c2 hat hwc; clear hat hwc; rw [HSN.out])
          | (at_len; refine wpList_len_own _ rfl _ 184 rfl 187 3 Try.underlying184 _ (w.heap.size + 1) k D rfl hmapX ?_; rw [hsize])
          | (at_mapUpdate; refine wpList_mapUpdate_own _ rfl _ _ _ 184 rfl 187 3 lawS Try.underlying184 _ (w.heap.size + 1) k D rfl hmapX (by unfold maxLen; omega) _ _ _ rfl rfl HCk.out _ [] (plainElem_int Try.underlying3 hwm) ?_; intro w2 hmap1 hg1; have hown1 := hownX.kept hg1 (.inr (by simp [Value.ownBlock])); obtain ⟨x1, hcx1, hfz1, _⟩ := own_cl hown1 hlt)
          | fail)
        have hbr1 : Below w.heap.size w w2 := hbX.out.grown hg1 hbX.out.size (fun j hj => by cases hj; omega)
        have hM1 : BxM w2 w.heap.size i o R n c := (hg1.block _ (by omega) (by simp)).trans hMX.out
        have hzz := hg1.size
        clear hmapX hownX hMX hbX hD hsize hwm hg1
        go_roundw
        case rel =>
          refine ⟨k + 1, _, _, by omega, by go_num, hmap1.kept (own_grown hown1 k _) (by simp), hD', own_set hown1 k _, hC.out.step (by have := hzl.out; omega) hstep.out, hM1.farS (by omega) _, hbr1.setCell (by simp; omega) _, by simp; omega⟩
        case measure => simp [intOf]; omega
    · obtain rfl : k = n := by omega
      have hfin2 : cur = M.ofL zs := by have h := hC.out; rw [← hzl.out] at h; exact h.done
      have hrd := Rd.of_own hown
      rw [hfin2, hfin.out] at hrd
      have HR := Lib.hid hrd
      clear hrd hfin2
      go_wp2
      go_ret
      exact ⟨_, rfl, by omega, hsz, HR.out, hbr.out⟩
end Go.Proofs.Ytnodnfailjmpeaa
