/-
  The law's own edge and list of layer 8; the chapter's examples one call each. No statement is proved here.
-/
import Derived.Test.YtonnplhiaidjnaaSqA
import Derived.Test.YtonnplhiaidjnaaSq8
import Derived.Test.YtonnplhiaidjnaaRb1
namespace Go.Proofs.Ytonnplhiaidjnaa
open Go.RowKit
open Mc (Ed Ma)

theorem sedge_any (x y : Int) (w : World) : Calls Try.prog 47 #[.int .i64 x, .int .i64 y] w fun e w' => e = .returned (.agg #[.int .i64 x, .int .i64 y]) ∧ Below w.heap.size w w' := by
  go_enter Try.func47, Try.ntmps47
  go_wp2
  go_returns
  exact ⟨rfl, (Below.refl _ _).alloc (Nat.le_refl _) _⟩
theorem slist_yes (A B : Option Addr) (n d : Nat) (x : List Int) (f : Int) (w : World) (hx : Rd w A x) (hy : Rd w B x) (hn : x.length = n) (hm : n ≤ 9223372036854775807) :
    Calls Try.prog 35 #[.slice A n n, .int .i64 f, .slice B n d, .int .i64 f] w fun e w' => e = .returned (.bool true) ∧ Below w.heap.size w w' := by
  subst hn
  have hs : Hid (M.same x x = true) := M.same_yes rfl
  have hff : (f == f) = true := by simp
  have hll : ((x.length : Int) == x.length) = true := by simp
  go_enter Try.func35, Try.ntmps35
  go_wp2_with fail
  refine (same_any _ _ _ _ _ _ _ hx hy hm).mono ?_
  rintro e w1 ⟨rfl, hb1⟩
  rw [hs.out]
  go_wp2
  go_ret
  exact ⟨rfl, hb1⟩

namespace Mc
abbrev y0 : List Ed := [(1, 0), (0, 0)]
abbrev y1 : List Ed := [(2, 0), (0, 0)]
abbrev y2 : List Ed := [(2, 1), (1, 0)]
abbrev SR : List (List Ed) := [y0, y1, y2]
abbrev SM : Ma := ⟨2, 2, SR⟩
theorem SM_chk : chk SM = 0 := by decide +kernel
theorem SM_val : Val SM := val_of SM_chk
theorem SM_02 : sl SM 0 2 = 1 ∧ sepw SM 0 2 = [0] := by decide +kernel
theorem SM_01 : sl SM 0 1 = 2 ∧ sepw SM 0 1 = [0, 0] := by decide +kernel
theorem SM_11 : sl SM 1 1 = 0 ∧ sepw SM 1 1 = [] := by decide +kernel
theorem SM_03 : skE SM [0, 3] = 1 := by decide +kernel
theorem SM_a : M.check [1, 0] 2 = 0 ∧ M.same (run SM 0 [1, 0]) (run SM 2 [1, 0]) = true := by decide +kernel
theorem SM_b : M.check [1, 1, 0] 2 = 0 ∧ M.same (run SM 0 [1, 1, 0]) (run SM 2 [1, 1, 0]) = true := by decide +kernel
theorem SM_c : M.check [1, 0, 0] 2 = 0 ∧ M.same (run SM 0 [1, 0, 0]) (run SM 2 [1, 0, 0]) = false := by decide +kernel
theorem SM_h : hgt SM = 2 := by decide +kernel
theorem SM_d : M.check [0] 2 = 0 ∧ M.ofL (stn SM [0]) = [0, 0, 1] := by decide +kernel
theorem SM_e : M.check [0, 0] 2 = 0 ∧ M.ofL (stn SM [0, 0]) = [0, 1, 2] := by decide +kernel
theorem SM_f : M.check [1] 2 = 0 ∧ M.ofL (stn SM [1]) = [0, 0, 0] := by decide +kernel
theorem SM_g : M.check [2] 2 = 1 := by decide +kernel
end Mc
theorem rdr_three (w : World) (A B C : Addr) (h0 : RdP w (some A) Mc.y0) (h1 : RdP w (some B) Mc.y1) (h2 : RdP w (some C) Mc.y2) :
    RdR (w.alloc (.cells #[.slice (some A) 2 2, .slice (some B) 2 2, .slice (some C) 2 2] 60)) (some ⟨w.heap.size, 0, none⟩) Mc.SR :=
  rdr_cells w Mc.SR _ fun k row hk => by
    match k, hk with
    | 0, hk => simp at hk; subst hk; exact ⟨A, rfl, h0, by decide⟩
    | 1, hk => simp at hk; subst hk; exact ⟨B, rfl, h1, by decide⟩
    | 2, hk => simp at hk; subst hk; exact ⟨C, rfl, h2, by decide⟩
theorem SR_len : ∀ row ∈ Mc.SR, row.length ≤ 1000000 := by decide
section
variable (A : Option Addr) (w : World)
theorem k_sep (s t L : Nat) (xs : List Int) (b : Bool) (hs : s < 3) (ht : t < 3) (h : Mc.sl Mc.SM s t = L ∧ Mc.sepw Mc.SM s t = xs) (hb : decide (0 < L) = b) (hr : RdR w A Mc.SR) :
    Calls Try.prog 33 #[.agg #[.int .i64 2, .int .i64 2, .slice A 3 3], .int .i64 s, .int .i64 t] w fun e w' => ∃ B, e = .returned (.tuple #[.slice B L L, .bool b, .int .i64 0]) ∧ Rd w' B xs ∧ Below w.heap.size w w' := by
  have := separate_ok Mc.SM 2 2 A 3 3 w s t L Mc.SM_val rfl rfl rfl hr hs ht h.1
  rw [h.2, hb] at this
  refine this.mono ?_
  rintro e w' ⟨B, rfl, h1, h2⟩
  exact ⟨_, rfl, h1, h2⟩
theorem k_sep3 (hr : RdR w A Mc.SR) :
    Calls Try.prog 33 #[.agg #[.int .i64 2, .int .i64 2, .slice A 3 3], .int .i64 0, .int .i64 3] w fun e w' => e = .returned (.tuple #[.slice none 0 0, .bool false, .int .i64 1]) ∧ Below w.heap.size w w' :=
  separate_err 2 2 Mc.SR A 3 3 0 3 w hr rfl (by decide) SR_len 1 Mc.SM_03 (by decide)
theorem k_spl (W : Option Addr) (k d : Nat) (ws : List Int) (s t : Nat) (b : Bool) (hs : s < 3) (ht : t < 3) (h : M.check ws 2 = 0 ∧ M.same (Mc.run Mc.SM s ws) (Mc.run Mc.SM t ws) = b) (hk : ws.length = k) (hk2 : k ≤ 1000) (hr : RdR w A Mc.SR) (hw : Rd w W ws) :
    Calls Try.prog 38 #[.agg #[.int .i64 2, .int .i64 2, .slice A 3 3], .slice W k d, .int .i64 s, .int .i64 t] w fun e w' => e = .returned (.tuple #[.bool !b, .int .i64 0]) ∧ Below w.heap.size w w' :=
  separates_ok Mc.SM 2 2 A W 3 3 k d ws s t w b Mc.SM_val rfl rfl rfl hk hr hw hs ht (by omega) h.1 h.2
theorem k_hgt (hr : RdR w A Mc.SR) :
    Calls Try.prog 41 #[.agg #[.int .i64 2, .int .i64 2, .slice A 3 3]] w fun e w' => e = .returned (.tuple #[.int .i64 2, .int .i64 0]) ∧ Below w.heap.size w w' := by
  have := height_ok Mc.SM 2 2 A 3 3 w Mc.SM_val rfl rfl rfl hr
  rw [Mc.SM_h] at this
  exact this
theorem k_aft (W : Option Addr) (k d : Nat) (ws xs : List Int) (h : M.check ws 2 = 0 ∧ M.ofL (Mc.stn Mc.SM ws) = xs) (hk : ws.length = k) (hk2 : k ≤ 1000) (hr : RdR w A Mc.SR) (hw : Rd w W ws) :
    Calls Try.prog 43 #[.agg #[.int .i64 2, .int .i64 2, .slice A 3 3], .slice W k d] w fun e w' => ∃ B, e = .returned (.tuple #[.slice B 3 3, .int .i64 0]) ∧ Rd w' B xs ∧ Below w.heap.size w w' := by
  have := after_val Mc.SM 2 2 A W 3 3 k d ws w 0 Mc.SM_val rfl rfl rfl hk hr hw (by omega) h.1
  rw [h.2] at this
  refine this.mono ?_
  rintro e w' ⟨_, h1, h2⟩
  obtain ⟨B, rfl, h3⟩ := h1 rfl
  exact ⟨B, rfl, h3, h2⟩
theorem k_aft2 (W : Option Addr) (d : Nat) (hr : RdR w A Mc.SR) (hw : Rd w W [2]) :
    Calls Try.prog 43 #[.agg #[.int .i64 2, .int .i64 2, .slice A 3 3], .slice W 1 d] w fun e w' => e = .returned (.tuple #[.slice none 0 0, .int .i64 1]) ∧ Below w.heap.size w w' := by
  have := after_val Mc.SM 2 2 A W 3 3 1 d [2] w 1 Mc.SM_val rfl rfl rfl rfl hr hw (by omega) Mc.SM_g
  refine this.mono ?_
  rintro e w' ⟨h1, _, h2⟩
  exact ⟨h1 (by decide), h2⟩
end
end Go.Proofs.Ytonnplhiaidjnaa
