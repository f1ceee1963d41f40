/-
  Several texts in one: Sb1, Sb2. No statement is proved here.
-/
import Derived.Test.YtonnplhiaidjnaaSqH
import Derived.Test.YtonnplhiaidjnaaSq8
import Derived.Test.YtonnplhiaidjnaaRb1
namespace Go.Proofs.Ytonnplhiaidjnaa
open Go.RowKit
open Mc (Ed Ma)

theorem sedge_any (x y : Int) (w : World) : Calls Try.prog 47 #[.int .i64 x, .int .i64 y] w fun e w' => e = .returned (.agg #[.int .i64 x, .int .i64 y]) ∧ Below w.heap.size w w' := by
  go_enter Try.func47, Try.ntmps47
  go_wp2
  go_returns
  exact ⟨rfl, (Below.refl _ _).alloc (Nat.le_refl _) _⟩
theorem slist_yes (A B : Option Addr) (n d : Nat) (x : List Int) (f : Int) (w : World) (hx : Rd w A x) (hy : Rd w B x) (hn : x.length = n) (hm : n ≤ 9223372036854775807) :
    Calls Try.prog 35 #[.slice A n n, .int .i64 f, .slice B n d, .int .i64 f] w fun e w' => e = .returned (.bool true) ∧ Below w.heap.size w w' := by
  subst hn
  have hs : Hid (M.same x x = true) := M.same_yes rfl
  have hff : (f == f) = true := by simp
  have hll : ((x.length : Int) == x.length) = true := by simp
  go_enter Try.func35, Try.ntmps35
  go_wp2_with fail
  refine (same_any _ _ _ _ _ _ _ hx hy hm).mono ?_
  rintro e w1 ⟨rfl, hb1⟩
  rw [hs.out]
  go_wp2
  go_ret
  exact ⟨rfl, hb1⟩

namespace Mc
abbrev y0 : List Ed := [(1, 0), (0, 0)]
abbrev y1 : List Ed := [(2, 0), (0, 0)]
abbrev y2 : List Ed := [(2, 1), (1, 0)]
abbrev SR : List (List Ed) := [y0, y1, y2]
abbrev SM : Ma := ⟨2, 2, SR⟩
theorem SM_chk : chk SM = 0 := by decide +kernel
theorem SM_val : Val SM := val_of SM_chk
theorem SM_02 : sl SM 0 2 = 1 ∧ sepw SM 0 2 = [0] := by decide +kernel
theorem SM_01 : sl SM 0 1 = 2 ∧ sepw SM 0 1 = [0, 0] := by decide +kernel
theorem SM_11 : sl SM 1 1 = 0 ∧ sepw SM 1 1 = [] := by decide +kernel
theorem SM_03 : skE SM [0, 3] = 1 := by decide +kernel
theorem SM_a : M.check [1, 0] 2 = 0 ∧ M.same (run SM 0 [1, 0]) (run SM 2 [1, 0]) = true := by decide +kernel
theorem SM_b : M.check [1, 1, 0] 2 = 0 ∧ M.same (run SM 0 [1, 1, 0]) (run SM 2 [1, 1, 0]) = true := by decide +kernel
theorem SM_c : M.check [1, 0, 0] 2 = 0 ∧ M.same (run SM 0 [1, 0, 0]) (run SM 2 [1, 0, 0]) = false := by decide +kernel
theorem SM_h : hgt SM = 2 := by decide +kernel
theorem SM_d : M.check [0] 2 = 0 ∧ M.ofL (stn SM [0]) = [0, 0, 1] := by decide +kernel
theorem SM_e : M.check [0, 0] 2 = 0 ∧ M.ofL (stn SM [0, 0]) = [0, 1, 2] := by decide +kernel
theorem SM_f : M.check [1] 2 = 0 ∧ M.ofL (stn SM [1]) = [0, 0, 0] := by decide +kernel
theorem SM_g : M.check [2] 2 = 1 := by decide +kernel
end Mc
theorem rdr_three (w : World) (A B C : Addr) (h0 : RdP w (some A) Mc.y0) (h1 : RdP w (some B) Mc.y1) (h2 : RdP w (some C) Mc.y2) :
    RdR (w.alloc (.cells #[.slice (some A) 2 2, .slice (some B) 2 2, .slice (some C) 2 2] 60)) (some ⟨w.heap.size, 0, none⟩) Mc.SR :=
  rdr_cells w Mc.SR _ fun k row hk => by
    match k, hk with
    | 0, hk => simp at hk; subst hk; exact ⟨A, rfl, h0, by decide⟩
    | 1, hk => simp at hk; subst hk; exact ⟨B, rfl, h1, by decide⟩
    | 2, hk => simp at hk; subst hk; exact ⟨C, rfl, h2, by decide⟩
theorem SR_len : ∀ row ∈ Mc.SR, row.length ≤ 1000000 := by decide
section
variable (A : Option Addr) (w : World)
theorem k_sep (s t L : Nat) (xs : List Int) (b : Bool) (hs : s < 3) (ht : t < 3) (h : Mc.sl Mc.SM s t = L ∧ Mc.sepw Mc.SM s t = xs) (hb : decide (0 < L) = b) (hr : RdR w A Mc.SR) :
    Calls Try.prog 33 #[.agg #[.int .i64 2, .int .i64 2, .slice A 3 3], .int .i64 s, .int .i64 t] w fun e w' => ∃ B, e = .returned (.tuple #[.slice B L L, .bool b, .int .i64 0]) ∧ Rd w' B xs ∧ Below w.heap.size w w' := by
  have := separate_ok Mc.SM 2 2 A 3 3 w s t L Mc.SM_val rfl rfl rfl hr hs ht h.1
  rw [h.2, hb] at this
  refine this.mono ?_
  rintro e w' ⟨B, rfl, h1, h2⟩
  exact ⟨_, rfl, h1, h2⟩
theorem k_sep3 (hr : RdR w A Mc.SR) :
    Calls Try.prog 33 #[.agg #[.int .i64 2, .int .i64 2, .slice A 3 3], .int .i64 0, .int .i64 3] w fun e w' => e = .returned (.tuple #[.slice none 0 0, .bool false, .int .i64 1]) ∧ Below w.heap.size w w' :=
  separate_err 2 2 Mc.SR A 3 3 0 3 w hr rfl (by decide) SR_len 1 Mc.SM_03 (by decide)
theorem k_spl (W : Option Addr) (k d : Nat) (ws : List Int) (s t : Nat) (b : Bool) (hs : s < 3) (ht : t < 3) (h : M.check ws 2 = 0 ∧ M.same (Mc.run Mc.SM s ws) (Mc.run Mc.SM t ws) = b) (hk : ws.length = k) (hk2 : k ≤ 1000) (hr : RdR w A Mc.SR) (hw : Rd w W ws) :
    Calls Try.prog 38 #[.agg #[.int .i64 2, .int .i64 2, .slice A 3 3], .slice W k d, .int .i64 s, .int .i64 t] w fun e w' => e = .returned (.tuple #[.bool !b, .int .i64 0]) ∧ Below w.heap.size w w' :=
  separates_ok Mc.SM 2 2 A W 3 3 k d ws s t w b Mc.SM_val rfl rfl rfl hk hr hw hs ht (by omega) h.1 h.2
theorem k_hgt (hr : RdR w A Mc.SR) :
    Calls Try.prog 41 #[.agg #[.int .i64 2, .int .i64 2, .slice A 3 3]] w fun e w' => e = .returned (.tuple #[.int .i64 2, .int .i64 0]) ∧ Below w.heap.size w w' := by
  have := height_ok Mc.SM 2 2 A 3 3 w Mc.SM_val rfl rfl rfl hr
  rw [Mc.SM_h] at this
  exact this
theorem k_aft (W : Option Addr) (k d : Nat) (ws xs : List Int) (h : M.check ws 2 = 0 ∧ M.ofL (Mc.stn Mc.SM ws) = xs) (hk : ws.length = k) (hk2 : k ≤ 1000) (hr : RdR w A Mc.SR) (hw : Rd w W ws) :
    Calls Try.prog 43 #[.agg #[.int .i64 2, .int .i64 2, .slice A 3 3], .slice W k d] w fun e w' => ∃ B, e = .returned (.tuple #[.slice B 3 3, .int .i64 0]) ∧ Rd w' B xs ∧ Below w.heap.size w w' := by
  have := after_val Mc.SM 2 2 A W 3 3 k d ws w 0 Mc.SM_val rfl rfl rfl hk hr hw (by omega) h.1
  rw [h.2] at this
  refine this.mono ?_
  rintro e w' ⟨_, h1, h2⟩
  obtain ⟨B, rfl, h3⟩ := h1 rfl
  exact ⟨B, rfl, h3, h2⟩
theorem k_aft2 (W : Option Addr) (d : Nat) (hr : RdR w A Mc.SR) (hw : Rd w W [2]) :
    Calls Try.prog 43 #[.agg #[.int .i64 2, .int .i64 2, .slice A 3 3], .slice W 1 d] w fun e w' => e = .returned (.tuple #[.slice none 0 0, .int .i64 1]) ∧ Below w.heap.size w w' := by
  have := after_val Mc.SM 2 2 A W 3 3 1 d [2] w 1 Mc.SM_val rfl rfl rfl rfl hr hw (by omega) Mc.SM_g
  refine this.mono ?_
  rintro e w' ⟨h1, _, h2⟩
  exact ⟨h1 (by decide), h2⟩
end
end Go.Proofs.Ytonnplhiaidjnaa

namespace Go.Proofs.Ytonnplhiaidjnaa
open Go.RowKit
open Mc (Ed Ma)

set_option maxRecDepth 100000 in
set_option maxHeartbeats 4000000 in
theorem slives_walk (w : World) : Calls Try.prog 36 #[] w fun e w' => e = .returned (.bool true) ∧ Below w.heap.size w w' := by
  have s0 : MT w w [] := MT.start
  go_enter Try.func36, Try.ntmps36
  go_wp2_with fail
  refine (sedge_any 1 0 _).mono ?_
  rintro e w1 ⟨rfl, hb⟩
  have s1 := MT.next s0 hb
  clear hb s0
  go_wp2_with fail
  refine (sedge_any 0 0 _).mono ?_
  rintro e w2 ⟨rfl, hb⟩
  have s2 := MT.next s1 hb
  clear hb s1
  have s3 := MK.putP (MT.alloc s2 (.cells #[.int .i64 1, .int .i64 0, .int .i64 0, .int .i64 0] 58)) (rdp_lit w2 Mc.y0 _ rfl)
  clear s2
  go_wp2_with fail
  refine (sedge_any 2 0 _).mono ?_
  rintro e w3 ⟨rfl, hb⟩
  have s4 := MT.next s3 hb
  clear hb s3
  go_wp2_with fail
  refine (sedge_any 0 0 _).mono ?_
  rintro e w4 ⟨rfl, hb⟩
  have s5 := MT.next s4 hb
  clear hb s4
  have s6 := MK.putP (MT.alloc s5 (.cells #[.int .i64 2, .int .i64 0, .int .i64 0, .int .i64 0] 58)) (rdp_lit w4 Mc.y1 _ rfl)
  clear s5
  go_wp2_with fail
  refine (sedge_any 2 1 _).mono ?_
  rintro e w5 ⟨rfl, hb⟩
  have s7 := MT.next s6 hb
  clear hb s6
  go_wp2_with fail
  refine (sedge_any 1 0 _).mono ?_
  rintro e w6 ⟨rfl, hb⟩
  have s8 := MT.next s7 hb
  clear hb s7
  have s9 := MK.putP (MT.alloc s8 (.cells #[.int .i64 2, .int .i64 1, .int .i64 1, .int .i64 0] 58)) (rdp_lit w6 Mc.y2 _ rfl)
  clear s8
  have s10 := MK.putR (MT.alloc s9 (.cells #[.slice (some ⟨w2.heap.size, 0, none⟩) 2 2, .slice (some ⟨w4.heap.size, 0, none⟩) 2 2, .slice (some ⟨w6.heap.size, 0, none⟩) 2 2] 60))
    (by
      have h := rdr_three _ ⟨w2.heap.size, 0, none⟩ ⟨w4.heap.size, 0, none⟩ ⟨w6.heap.size, 0, none⟩ (MK.get s9 2 rfl) (MK.get s9 1 rfl) (MK.get s9 0 rfl)
      rw [show (w6.alloc (.cells #[.int .i64 2, .int .i64 1, .int .i64 1, .int .i64 0] 58)).heap.size = w6.heap.size + 1 by simp] at h
      exact h)
  clear s9
  have s11 := MK.putB (g := w6.heap.size + 1 + 1) (MT.alloc s10 (.cells #[.int .i64 2, .int .i64 2, .slice (some ⟨w6.heap.size + 1, 0, none⟩) 3 3] 27))
    (by
      have h := heap_alloc_new ((w6.alloc (.cells #[.int .i64 2, .int .i64 1, .int .i64 1, .int .i64 0] 58)).alloc (.cells #[.slice (some ⟨w2.heap.size, 0, none⟩) 2 2, .slice (some ⟨w4.heap.size, 0, none⟩) 2 2, .slice (some ⟨w6.heap.size, 0, none⟩) 2 2] 60)) (.cells #[.int .i64 2, .int .i64 2, .slice (some ⟨w6.heap.size + 1, 0, none⟩) 3 3] 27)
      rw [show ((w6.alloc (.cells #[.int .i64 2, .int .i64 1, .int .i64 1, .int .i64 0] 58)).alloc (.cells #[.slice (some ⟨w2.heap.size, 0, none⟩) 2 2, .slice (some ⟨w4.heap.size, 0, none⟩) 2 2, .slice (some ⟨w6.heap.size, 0, none⟩) 2 2] 60)).heap.size = w6.heap.size + 1 + 1 by simp] at h
      exact h)
  clear s10
  go_upto_region 2 with fail
  obtain ⟨w7, hw⟩ : ∃ q, ((w6.alloc (.cells #[.int .i64 2, .int .i64 1, .int .i64 1, .int .i64 0] 58)).alloc (.cells #[.slice (some ⟨w2.heap.size, 0, none⟩) 2 2, .slice (some ⟨w4.heap.size, 0, none⟩) 2 2, .slice (some ⟨w6.heap.size, 0, none⟩) 2 2] 60)).alloc (.cells #[.int .i64 2, .int .i64 2, .slice (some ⟨w6.heap.size + 1, 0, none⟩) 3 3] 27) = q := ⟨_, rfl⟩
  obtain ⟨G, hG⟩ : ∃ G, w6.heap.size + 1 + 1 = G := ⟨_, rfl⟩
  obtain ⟨Q, hQ⟩ : ∃ Q, w6.heap.size + 1 = Q := ⟨_, rfl⟩
  rw [hw, hG, hQ] at s11
  try rw [hw]
  try rw [hG]
  try rw [hQ]
  clear hw hG hQ
  obtain ⟨b0, b1, b2⟩ := BxM.cells (MK.get s11 0 rfl)
  go_wp2_with fail
  clear b0 b1 b2
  refine (k_sep _ _ 0 2 1 [0] true (by decide) (by decide) Mc.SM_02 rfl (MK.get s11 1 rfl)).mono ?_
  rintro e w8 ⟨A0, rfl, hr, hb⟩
  have s12 := MT.next s11 hb
  clear hb s11
  have s13 := MK.putL s12 hr
  clear s12 hr
  obtain ⟨b0, b1, b2⟩ := BxM.cells (MK.get s13 1 rfl)
  go_wp2_with fail
  clear b0 b1 b2
  refine (k_sep _ _ 0 1 2 [0, 0] true (by decide) (by decide) Mc.SM_01 rfl (MK.get s13 2 rfl)).mono ?_
  rintro e w9 ⟨A1, rfl, hr, hb⟩
  have s14 := MT.next s13 hb
  clear hb s13
  have s15 := MK.putL s14 hr
  clear s14 hr
  obtain ⟨b0, b1, b2⟩ := BxM.cells (MK.get s15 2 rfl)
  go_wp2_with fail
  clear b0 b1 b2
  refine (k_sep _ _ 1 1 0 [] false (by decide) (by decide) Mc.SM_11 rfl (MK.get s15 3 rfl)).mono ?_
  rintro e w10 ⟨A2, rfl, hr, hb⟩
  have s16 := MT.next s15 hb
  clear hb s15
  have s17 := MK.putL s16 hr
  clear s16 hr
  obtain ⟨b0, b1, b2⟩ := BxM.cells (MK.get s17 3 rfl)
  have s18 := MK.putL (MT.alloc s17 (.cells (ints [1, 0]).toArray 3)) (rd_lit w10 [1, 0])
  go_wp2_with fail
  clear b0 b1 b2 s17
  refine (k_spl _ _ _ 2 2 [1, 0] 0 2 true (by decide) (by decide) Mc.SM_a rfl (by decide) (MK.get s18 5 rfl) (MK.get s18 0 rfl)).mono ?_
  rintro e w11 ⟨rfl, hb⟩
  have s19 := MT.next s18 hb
  clear hb s18
  obtain ⟨b0, b1, b2⟩ := BxM.cells (MK.get s19 4 rfl)
  have s20 := MK.putL (MT.alloc s19 (.cells (ints [1, 1, 0]).toArray 3)) (rd_lit w11 [1, 1, 0])
  go_wp2_with fail
  clear b0 b1 b2 s19
  refine (k_spl _ _ _ 3 3 [1, 1, 0] 0 2 true (by decide) (by decide) Mc.SM_b rfl (by decide) (MK.get s20 6 rfl) (MK.get s20 0 rfl)).mono ?_
  rintro e w12 ⟨rfl, hb⟩
  have s21 := MT.next s20 hb
  clear hb s20
  obtain ⟨b0, b1, b2⟩ := BxM.cells (MK.get s21 5 rfl)
  have s22 := MK.putL (MT.alloc s21 (.cells (ints [1, 0, 0]).toArray 3)) (rd_lit w12 [1, 0, 0])
  go_wp2_with fail
  clear b0 b1 b2 s21
  refine (k_spl _ _ _ 3 3 [1, 0, 0] 0 2 false (by decide) (by decide) Mc.SM_c rfl (by decide) (MK.get s22 7 rfl) (MK.get s22 0 rfl)).mono ?_
  rintro e w13 ⟨rfl, hb⟩
  have s23 := MT.next s22 hb
  clear hb s22
  obtain ⟨b0, b1, b2⟩ := BxM.cells (MK.get s23 6 rfl)
  go_wp2_with fail
  clear b0 b1 b2
  refine (k_hgt _ _ (MK.get s23 7 rfl)).mono ?_
  rintro e w14 ⟨rfl, hb⟩
  have s24 := MT.next s23 hb
  clear hb s23
  obtain ⟨b0, b1, b2⟩ := BxM.cells (MK.get s24 6 rfl)
  have s25 := MK.putL (MT.alloc s24 (.cells (ints [0]).toArray 3)) (rd_lit w14 [0])
  go_wp2_with fail
  clear b0 b1 b2 s24
  refine (k_aft _ _ _ 1 1 [0] [0, 0, 1] Mc.SM_d rfl (by decide) (MK.get s25 8 rfl) (MK.get s25 0 rfl)).mono ?_
  rintro e w15 ⟨A3, rfl, hr, hb⟩
  have s26 := MT.next s25 hb
  clear hb s25
  have s27 := MK.putL s26 hr
  clear s26 hr
  obtain ⟨b0, b1, b2⟩ := BxM.cells (MK.get s27 8 rfl)
  have s28 := MK.putL (MT.alloc s27 (.cells (ints [0, 0]).toArray 3)) (rd_lit w15 [0, 0])
  go_wp2_with fail
  clear b0 b1 b2 s27
  refine (k_aft _ _ _ 2 2 [0, 0] [0, 1, 2] Mc.SM_e rfl (by decide) (MK.get s28 10 rfl) (MK.get s28 0 rfl)).mono ?_
  rintro e w16 ⟨A4, rfl, hr, hb⟩
  have s29 := MT.next s28 hb
  clear hb s28
  have s30 := MK.putL s29 hr
  clear s29 hr
  obtain ⟨b0, b1, b2⟩ := BxM.cells (MK.get s30 10 rfl)
  have s31 := MK.putL (MT.alloc s30 (.cells (ints [1]).toArray 3)) (rd_lit w16 [1])
  go_wp2_with fail
  clear b0 b1 b2 s30
  refine (k_aft _ _ _ 1 1 [1] [0, 0, 0] Mc.SM_f rfl (by decide) (MK.get s31 12 rfl) (MK.get s31 0 rfl)).mono ?_
  rintro e w17 ⟨A5, rfl, hr, hb⟩
  have s32 := MT.next s31 hb
  clear hb s31
  have s33 := MK.putL s32 hr
  clear s32 hr
  obtain ⟨b0, b1, b2⟩ := BxM.cells (MK.get s33 12 rfl)
  go_wp2_with fail
  clear b0 b1 b2
  refine (k_sep3 _ _ (MK.get s33 13 rfl)).mono ?_
  rintro e w18 ⟨rfl, hb⟩
  have s34 := MT.next s33 hb
  clear hb s33
  obtain ⟨b0, b1, b2⟩ := BxM.cells (MK.get s34 12 rfl)
  have s35 := MK.putL (MT.alloc s34 (.cells (ints [2]).toArray 3)) (rd_lit w18 [2])
  go_wp2_with fail
  clear b0 b1 b2 s34
  refine (k_aft2 _ _ _ 1 (MK.get s35 14 rfl) (MK.get s35 0 rfl)).mono ?_
  rintro e w19 ⟨rfl, hb⟩
  have s36 := MT.next s35 hb
  clear hb s35
  have s37 := MK.putL (MT.alloc s36 (.cells (ints [0]).toArray 3)) (rd_lit w19 [0])
  go_wp2_with fail
  clear s36
  refine (slist_yes A0 (some ⟨w19.heap.size, 0, none⟩) 1 1 [0] 0 _ (MK.get s37 13 rfl) (MK.get s37 0 rfl) rfl (by decide)).mono ?_
  rintro e w20 ⟨rfl, hb⟩
  have s38 := MT.next s37 hb
  clear hb s37
  have s39 := MK.putL (MT.alloc s38 (.cells (ints [0, 0]).toArray 3)) (rd_lit w20 [0, 0])
  go_wp2_with fail
  clear s38
  refine (slist_yes A1 (some ⟨w20.heap.size, 0, none⟩) 2 2 [0, 0] 0 _ (MK.get s39 13 rfl) (MK.get s39 0 rfl) rfl (by decide)).mono ?_
  rintro e w21 ⟨rfl, hb⟩
  have s40 := MT.next s39 hb
  clear hb s39
  go_wp2_with fail
  refine (slist_yes A2 none 0 0 [] 0 _ (MK.get s40 12 rfl) Rd.nil_ rfl (by decide)).mono ?_
  rintro e w22 ⟨rfl, hb⟩
  have s41 := MT.next s40 hb
  clear hb s40
  have s42 := MK.putL (MT.alloc s41 (.cells (ints [0, 0, 1]).toArray 3)) (rd_lit w22 [0, 0, 1])
  go_wp2_with fail
  clear s41
  refine (slist_yes A3 (some ⟨w22.heap.size, 0, none⟩) 3 3 [0, 0, 1] 0 _ (MK.get s42 8 rfl) (MK.get s42 0 rfl) rfl (by decide)).mono ?_
  rintro e w23 ⟨rfl, hb⟩
  have s43 := MT.next s42 hb
  clear hb s42
  have s44 := MK.putL (MT.alloc s43 (.cells (ints [0, 1, 2]).toArray 3)) (rd_lit w23 [0, 1, 2])
  go_wp2_with fail
  clear s43
  refine (slist_yes A4 (some ⟨w23.heap.size, 0, none⟩) 3 3 [0, 1, 2] 0 _ (MK.get s44 7 rfl) (MK.get s44 0 rfl) rfl (by decide)).mono ?_
  rintro e w24 ⟨rfl, hb⟩
  have s45 := MT.next s44 hb
  clear hb s44
  have s46 := MK.putL (MT.alloc s45 (.cells (ints [0, 0, 0]).toArray 3)) (rd_lit w24 [0, 0, 0])
  go_wp2_with fail
  clear s45
  refine (slist_yes A5 (some ⟨w24.heap.size, 0, none⟩) 3 3 [0, 0, 0] 0 _ (MK.get s46 6 rfl) (MK.get s46 0 rfl) rfl (by decide)).mono ?_
  rintro e w25 ⟨rfl, hb⟩
  have s47 := MT.next s46 hb
  clear hb s46
  have hfin := s47.2.1
  clear s47
  go_wp2_with fail
  go_ret
  exact ⟨rfl, hfin⟩
end Go.Proofs.Ytonnplhiaidjnaa
