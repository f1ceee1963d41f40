/-
  Contracts: the words of a list for which a function holds; Reduce. No statement is proved here.
-/
import Derived.Test.YtjodhihcckcefaaU9
namespace Go.Proofs.Ytjodhihcckcefaa
open Go.RowKit Go.Maps

theorem filter_snoc_t {p : List Int → Bool} {l : List (List Int)} {x : List Int} (h : p x = true) : (l ++ [x]).filter p = l.filter p ++ [x] := by
  rw [List.filter_append]; simp [h]
theorem filter_snoc_f {p : List Int → Bool} {l : List (List Int)} {x : List Int} (h : p x = false) : (l ++ [x]).filter p = l.filter p := by
  rw [List.filter_append]; simp [h]
set_option maxRecDepth 100000 in
set_option maxHeartbeats 2000000 in
theorem chosenR_any (L : Option Addr) (c N B : Nat) (rows : List (List Int)) (p : List Int → Bool) (w : World) (h : RdS w L rows) (hN : rows.length = N) (hm : N ≤ 4096) (hl : ∀ x ∈ rows, x.length ≤ 1000)
    (HF : ∀ W, Below w.heap.size w W → ∀ (A : Option Addr) (m d : Nat) (x : List Int), x ∈ rows → x.length = m → Rd W A x → Calls Try.prog 62 #[.slice A m d, .pointer (some ⟨B, 0, none⟩)] W fun e w' => e = .returned (.bool (p x)) ∧ Below W.heap.size W w') :
    Calls Try.prog 61 #[.slice L N c, .func (.func 62) #[] #[.pointer (some ⟨B, 0, none⟩)]] w fun e w' => ∃ A q, e = .returned (.slice A q q) ∧ q = (rows.filter p).length ∧ RdX w' A (rows.filter p) ∧ Below w.heap.size w w' := by
  have HN := Lib.hid hN
  have HH := Lib.hid h
  have HL := Lib.hid hl
  have HG := Lib.hid HF
  have hfl : ∀ k, ((rows.take k).filter p).length ≤ 1000000 := fun k => by
    have h1 := List.length_filter_le p (rows.take k)
    have h2 : (rows.take k).length ≤ rows.length := by simp; omega
    omega
  have HFL := Lib.hid hfl
  clear hN h hl HF hfl
  go_enter Try.func61, Try.ntmps61
  go_wp2
  go_loopw [5, 11] (fun v z wr => ∃ k : Nat, k ≤ N ∧ z = .int .i64 k ∧ Hid (OwL true wr w.heap.size v ((rows.take k).filter p)) ∧ Hid (Below w.heap.size w wr)) (fun _ z _ => N - (intOf z).toNat)
  case atStart => exact ⟨0, Nat.zero_le _, rfl, OwL.nil_ _ _, Below.refl _ _⟩
  case round =>
    obtain ⟨k, hk, rfl, hO, hb⟩ := hrel
    by_cases hlt : k < N
    · have hkl : k < rows.length := by rw [HN.out]; exact hlt
      obtain ⟨b, off, A, cc, m, rfl, hbw, hc, hrd, hml⟩ := (HH.out.below hb.out).at_ hkl
      have hxl := HL.out _ (M.row_mem hkl)
      have CF := Lib.hid (HG.out wr hb.out A m cc _ (M.row_mem hkl) hml.out hrd)
      have HT := Lib.hid (take_row hkl)
      have HR := Lib.hid hrd
      have hm1 : m ≤ 1000 := by rw [← hml.out]; exact hxl
      obtain ⟨x, hx⟩ : ∃ x, M.row rows k = x := ⟨_, rfl⟩
      rw [hx] at CF HT HR hml
      clear hrd hx hxl
      cases hp : p x with
      | false =>
        rw [hp] at CF
        go_wp2_with fail
        refine CF.out.mono ?_
        rintro e w1 ⟨rfl, hb1⟩
        have hO2 := hO.out.below hb1
        rw [← filter_snoc_f (l := rows.take k) hp, ← HT.out] at hO2
        have HO1 := Lib.hid hO2
        clear hO2
        have HB := Lib.hid (below_next hb.out hb1)
        clear hb hb1 hO hc CF
        go_wp2
        go_roundw
        case rel => exact ⟨k + 1, by omega, by go_num, HO1, HB⟩
        case measure => simp [intOf]; omega
      | true =>
        rw [hp] at CF
        go_wp2_with fail
        refine CF.out.mono ?_
        rintro e w1 ⟨rfl, hb1⟩
        have hO1 := Lib.hid (hO.out.below hb1)
        have HB := Lib.hid (below_next hb.out hb1)
        have hR1 := Lib.hid (HR.out.below hb1)
        have hz1 := hb1.size
        have hz0 := hb.out.size
        clear hb hb1 hO hc CF HR
        go_wp2_with (first
          | (refine wpList_make_ints _ rfl _ _ rfl _ m rfl rfl rfl (by omega) ?_
             intro w2 hB2 hb2
             have hR2 := hR1.out.below hb2)
          | (with_reducible refine wpList_copy_ints _ rfl (.tmp 21) (.tmp 22) rfl A m w1.heap.size m cc (List.replicate m 0) x rfl rfl hB2.out (by simp) hR2 hml.out w1.heap.size w1 hb2 (Nat.le_refl _) ?_
             intro w3 hB3 hb3
             have hO3 := hO1.out.below hb3
             have B3 := below_next HB.out hb3)
          | (refine wpList_append_w w3 hO3 (HFL.out k) (RdK.blk hB3.out) hml.out (fun _ => rfl) B3 (by have := hb3.size; omega) rfl _ _ rfl rfl rfl ?_
             intro v1 w4 hO4 hb4 _)
          | fail)
        have HO4 : Hid (OwL true w4 w.heap.size v1 ((rows.take (k + 1)).filter p)) := by
          show OwL _ _ _ _ _
          rw [HT.out, filter_snoc_t hp]; exact hO4
        have HB4 := Lib.hid hb4
        clear hO4 hb4 hO3 B3 hB3 hb3 hR2 hB2 hb2 hO1 HB hR1
        go_roundw
        case rel => exact ⟨k + 1, by omega, by go_num, HO4, HB4⟩
        case measure => simp [intOf]; omega
    · obtain rfl : k = N := by omega
      have hO1 := hO.out
      rw [List.take_of_length_le (by rw [HN.out]; omega)] at hO1
      obtain ⟨A, d, rfl, hd, _⟩ := hO1.form
      have HX := Lib.hid hO1.rdx
      obtain ⟨q, hq⟩ : ∃ q, (rows.filter p).length = q := ⟨_, rfl⟩
      rw [hq] at hd ⊢
      have HQ := Lib.hid hq
      clear hO hO1 hq
      go_wp2_with fail
      refine (clip_any A q d wr hd).mono ?_
      rintro e w1 ⟨rfl, rfl⟩
      go_wp2
      go_ret
      exact ⟨A, q, rfl, HQ.out.symm ▸ rfl, HX.out, hb.out⟩
set_option maxRecDepth 100000 in
set_option maxHeartbeats 2000000 in
theorem reduce_any (L : Option Addr) (c N : Nat) (rows : List (List Int)) (n : Int) (w : World) (h : RdS w L rows) (hN : rows.length = N) (hm : N ≤ 9223372036854775807) (R : Int) (hR : M.chE rows n = R) :
    Calls Try.prog 27 #[.slice L N c, .int .i64 n] w (Lst w (okL R (rows.filter fun x => !ppr rows x)) R) := by
  have C1 := Lib.hid (tcheck_any L c N rows n w h hN hm)
  by_cases hz : M.chE rows n = 0
  · have hby := ch_by hz
    rw [hz] at hR C1
    obtain rfl := hR
    rw [okL_ok]
    have CK := Lib.hid (fun w' (hb : Below w.heap.size w w') => prefixes_any L c N rows w' (h.below hb) hN (by omega) hby.2)
    have HH := Lib.hid h
    have HN := Lib.hid hN
    have HBY := Lib.hid hby
    have hN4 : N ≤ 4096 := by omega
    clear h hN hz hby
    go_enter Try.func27, Try.ntmps27
    go_wp2_with fail
    refine C1.out.mono ?_
    rintro e w1 ⟨rfl, hb1⟩
    go_wp2_with fail
    refine (CK.out _ hb1).mono ?_
    rintro e w2 ⟨b, hb, rfl, hMp, hb2⟩
    have B2 := Lib.hid (below_next hb1 hb2)
    have HMp := Lib.hid hMp
    clear hb1 hb2 hMp
    go_wp2_with fail
    obtain ⟨W, hW⟩ : ∃ W, w2.alloc (.cells #[.map (some b)] 74) = W := ⟨_, rfl⟩
    have hbW : Below w2.heap.size w2 W := by rw [← hW]; exact (Below.refl _ _).alloc (Nat.le_refl _) _
    have hcW : W.cell? ⟨w2.heap.size, 0, none⟩ = some (.map (some b)) := by
      rw [← hW, cell_of_row _ _ _ _ _ _ (heap_alloc_new _ _)]; rfl
    have hlW : w2.heap.size < W.heap.size := by rw [← hW]; simp
    have hMW := HMp.out.mv hbW HMp.out.lt
    have BW := below_next B2.out hbW
    rw [hW]
    refine (chosenR_any L c N w2.heap.size rows (fun x => !ppr rows x) W (HH.out.below BW) HN.out hN4 (fun x hx => (HBY.out.2 x hx).2) (fun X hX A m d x hx hml hrd => ?_)).mono ?_
    · have hxb := HBY.out.2 x hx
      have := reduce1_any A d m x w2.heap.size b _ _ X hrd hml (by omega) hxb.1 (by have := hX.size; omega) (((bcell hX).1 _ _ hlW).trans hcW) (hMW.mv hX hMW.lt)
      rw [pfF_get] at this
      exact this
    rintro e w3 ⟨A, q, rfl, hq, hx, hb3⟩
    have HL := Lib.hid (Lst.after (R := 0) BW hq hx hb3)
    clear hq hx hb3 BW hMW hlW hcW hbW hW B2 HMp
    go_wp2
    go_ret2
    exact HL.out
  · rw [hR] at C1 hz
    have hz1 : (R != 0) = true := by simpa using hz
    rw [okL_err hz]
    clear hR h hN hz
    go_enter Try.func27, Try.ntmps27
    go_wp2_with fail
    refine C1.out.mono ?_
    rintro e w1 ⟨rfl, hb1⟩
    go_wp2
    go_ret2
    exact Lst.no hb1
end Go.Proofs.Ytjodhihcckcefaa
