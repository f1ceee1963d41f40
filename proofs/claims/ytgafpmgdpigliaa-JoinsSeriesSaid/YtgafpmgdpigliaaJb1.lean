/-
  The chapter's examples of joins, one call each. No statement is proved here.
-/
import Derived.Test.YtgafpmgdpigliaaJb0
namespace Go.Proofs.Ytgafpmgdpigliaa
open Go.RowKit
open Mc (Ed Ma Wv nE)

/-- A machine in memory of its own, without spare room, is handed back. -/
def JxP (w : World) (i o : Int) (k : Nat) (rs : List (List Ed)) (e : Ending) (w' : World) : Prop := ∃ p, e = .returned (.tuple #[.agg #[.int .i64 i, .int .i64 o, .slice (some ⟨p, 0, none⟩) k k], .int .i64 0]) ∧ Ex w' p k rs ∧ Below w.heap.size w w'
theorem JeP.ok {w w' : World} {i o : Int} {k : Nat} {rs : List (List Ed)} {e : Ending} {x : Int} (h : JeP w x i o rs e w') (hx : x = 0) (hk : rs.length = k) (hk2 : k ≤ 1000000) (hr : ∀ row ∈ rs, row.length ≤ 1000000) : JxP w i o k rs e w' := by
  rcases h with ⟨h, _⟩ | ⟨_, p, k', gs, rfl, h2, h3, h4, h5⟩
  · exact absurd hx h
  · obtain rfl : k' = k := h2.out.symm.trans hk
    exact ⟨p, rfl, ⟨gs, h3.out, hk, hk2, hr, h4.out.base (Nat.zero_le _)⟩, h5⟩
theorem JeP.no {w w' : World} {i o : Int} {rs : List (List Ed)} {e : Ending} {x y : Int} (h : JeP w x i o rs e w') (hx : x = y) (hy : y ≠ 0) : JzP w y e w' := by
  subst hx
  rcases h with ⟨_, h⟩ | ⟨h, _⟩
  · exact h
  · exact absurd h hy
theorem SeP.ok {w w' : World} {J : Ma} {k : Nat} {rs : List (List Ed)} {e : Ending} {x : Int} (h : SeP w J x e w') (hx : x = 0) (hj : (Mc.prt J (Mc.ord J)).r = rs) (hk : rs.length = k) (hk2 : k ≤ 64) (hr : ∀ row ∈ rs, row.length ≤ 1000000) : JxP w J.i J.o k rs e w' := by
  have hl : (Mc.ord J).length = k := by rw [← hk, ← hj, Mc.prt_len]
  rcases h with ⟨h, _⟩ | ⟨_, ⟨_, p, k', gs, rfl, h2, h3, h4, h5⟩ | ⟨h, _⟩⟩
  · exact absurd hx h
  · obtain rfl : k' = k := h2.out.symm.trans hl
    rw [hj] at h4
    exact ⟨p, rfl, ⟨gs, h3.out, hk, by omega, hr, h4.out.base (Nat.zero_le _)⟩, h5⟩
  · omega
theorem SeP.no {w w' : World} {J : Ma} {e : Ending} {x y : Int} (h : SeP w J x e w') (hx : x = y) (hy : y ≠ 0) : JzP w y e w' := by
  subst hx
  rcases h with ⟨_, h⟩ | ⟨h, _⟩
  · exact h
  · exact absurd h hy
/-! ### The machines -/
def xa : Ma := ⟨1, 2, [[(1, 0)], [(0, 1)]]⟩
def xb : Ma := ⟨2, 2, [[(0, 0), (1, 1)], [(0, 1), (1, 0)]]⟩
def xc : Ma := ⟨1, 1, [[(-1, -1)]]⟩
theorem xa_len : ∀ row ∈ xa.r, row.length ≤ 1000000 := by decide
theorem xb_len : ∀ row ∈ xb.r, row.length ≤ 1000000 := by decide
theorem xc_len : ∀ row ∈ xc.r, row.length ≤ 1000000 := by decide

theorem l_ser (A B : Option Addr) (c c2 : Nat) (w : World) (ha : RdR w A xa.r) (hb : RdR w B xb.r) :
    Calls Try.prog 18 #[.agg #[.int .i64 1, .int .i64 2, .slice A 2 c], .agg #[.int .i64 2, .int .i64 2, .slice B 2 c2]] w (JxP w 1 2 3 [[(1, 0)], [(2, 1)], [(1, 1)]]) :=
  (series_any xa xb A B 2 c 2 c2 w ha rfl (by omega) xa_len hb rfl (by omega) xb_len).mono fun _ _ h => h.ok (by decide +kernel) (by decide +kernel) rfl (by omega) (by decide)

theorem l_par (A B : Option Addr) (c c2 : Nat) (w : World) (ha : RdR w A xa.r) (hb : RdR w B xa.r) :
    Calls Try.prog 28 #[.agg #[.int .i64 1, .int .i64 2, .slice A 2 c], .agg #[.int .i64 1, .int .i64 2, .slice B 2 c2]] w (JxP w 1 4 2 [[(1, 0)], [(0, 3)]]) :=
  (parallel_any xa xa A B 2 c 2 c2 w ha rfl (by omega) xa_len hb rfl (by omega) xa_len).mono fun _ _ h => h.ok (by decide +kernel) (by decide +kernel) rfl (by omega) (by decide)

theorem l_uni (A B : Option Addr) (c c2 : Nat) (w : World) (ha : RdR w A xa.r) (hb : RdR w B xc.r) :
    Calls Try.prog 30 #[.agg #[.int .i64 1, .int .i64 2, .slice A 2 c], .agg #[.int .i64 1, .int .i64 1, .slice B 1 c2]] w (JxP w 1 2 3 [[(1, 0)], [(0, 1)], [(-1, -1)]]) :=
  (unite_any xa xc A B 2 c 1 c2 w ha rfl (by omega) xa_len hb rfl (by omega) xc_len).mono fun _ _ h => JeP.ok h (by decide +kernel) rfl (by omega) (by decide)

theorem l_ser5 (A B : Option Addr) (c c2 : Nat) (w : World) (ha : RdR w A xa.r) (hb : RdR w B xc.r) :
    Calls Try.prog 18 #[.agg #[.int .i64 1, .int .i64 2, .slice A 2 c], .agg #[.int .i64 1, .int .i64 1, .slice B 1 c2]] w (JzP w 5) :=
  (series_any xa xc A B 2 c 1 c2 w ha rfl (by omega) xa_len hb rfl (by omega) xc_len).mono fun _ _ h => h.no (by decide +kernel) (by decide)

theorem l_par5 (A B : Option Addr) (c c2 : Nat) (w : World) (ha : RdR w A xa.r) (hb : RdR w B xb.r) :
    Calls Try.prog 28 #[.agg #[.int .i64 1, .int .i64 2, .slice A 2 c], .agg #[.int .i64 2, .int .i64 2, .slice B 2 c2]] w (JzP w 5) :=
  (parallel_any xa xb A B 2 c 2 c2 w ha rfl (by omega) xa_len hb rfl (by omega) xb_len).mono fun _ _ h => h.no (by decide +kernel) (by decide)

theorem l_ser6 (A B : Option Addr) (c c2 : Nat) (w : World) (ha : RdR w A xa.r) (hb : RdR w B xa.r) :
    Calls Try.prog 18 #[.agg #[.int .i64 1, .int .i64 2, .slice A 2 c], .agg #[.int .i64 1, .int .i64 2, .slice B 2 c2]] w (JzP w 5) :=
  (series_any xa xa A B 2 c 2 c2 w ha rfl (by omega) xa_len hb rfl (by omega) xa_len).mono fun _ _ h => h.no (by decide +kernel) (by decide)

theorem l_ren (A I O S : Option Addr) (c c0 c1 c2 : Nat) (w : World) (ha : RdR w A xa.r) (hi : Rd w I [0]) (ho : Rd w O [1, 0]) (hs : Rd w S [0, 1]) :
    Calls Try.prog 26 #[.agg #[.int .i64 1, .int .i64 2, .slice A 2 c], .slice I 1 c0, .slice O 2 c1, .slice S 2 c2] w (JxP w 1 2 2 [[(1, 1)], [(0, 0)]]) :=
  (rename_any xa A 2 c [0] [1, 0] [0, 1] I O S 1 c0 2 c1 2 c2 w ha rfl (by omega) xa_len hi rfl ho rfl hs rfl (by omega) (by omega) (by omega)).mono fun _ _ h => by
    rw [show renT xa [0] [1, 0] [0, 1] 2 xa.i.toNat = [[(1, 1)], [(0, 0)]] by decide +kernel] at h
    exact JeP.ok h (by decide +kernel) rfl (by omega) (by decide)

theorem l_fil0 (A : Option Addr) (c : Nat) (w : World) (ha : RdR w A xc.r) :
    Calls Try.prog 32 #[.agg #[.int .i64 1, .int .i64 1, .slice A 1 c], .int .u8 0, .int .i64 0] w (JxP w 1 1 1 [[(0, 0)]]) :=
  (fill_w0 xc A 1 c 0 w ha rfl (by omega) xc_len).mono fun _ _ h => by
    rw [show filT xc 0 0 = [[(0, 0)]] by decide +kernel] at h
    exact JeP.ok h (by decide +kernel) rfl (by omega) (by decide)

theorem l_fil1 (A : Option Addr) (c : Nat) (w : World) (ha : RdR w A xc.r) :
    Calls Try.prog 32 #[.agg #[.int .i64 1, .int .i64 1, .slice A 1 c], .int .u8 1, .int .i64 0] w (JxP w 1 1 2 [[(1, 0)], [(1, 0)]]) :=
  (fill_w1 xc A 1 c 0 w ha rfl (by omega) xc_len).mono fun _ _ h => by
    rw [show filT xc 1 0 = [[(1, 0)], [(1, 0)]] by decide +kernel] at h
    exact JeP.ok h (by decide +kernel) rfl (by omega) (by decide)

theorem l_fil2 (A : Option Addr) (c : Nat) (w : World) (ha : RdR w A xc.r) :
    Calls Try.prog 32 #[.agg #[.int .i64 1, .int .i64 1, .slice A 1 c], .int .u8 0, .int .i64 1] w (JzP w 1) :=
  (fill_w0 xc A 1 c 1 w ha rfl (by omega) xc_len).mono fun _ _ h => JeP.no h (by decide +kernel) (by decide)

theorem l_res (A I : Option Addr) (c c0 : Nat) (w : World) (ha : RdR w A xb.r) (hi : Rd w I [1]) :
    Calls Try.prog 61 #[.agg #[.int .i64 2, .int .i64 2, .slice A 2 c], .slice I 1 c0] w (JxP w 1 2 2 [[(1, 1)], [(1, 0)]]) :=
  (restrict_any xb A 2 c [1] I 1 c0 w ha rfl (by omega) xb_len hi rfl (by omega)).mono fun _ _ h => by
    rw [show resT xb [1] = [[(1, 1)], [(1, 0)]] by decide +kernel] at h
    exact JeP.ok h (by decide +kernel) rfl (by omega) (by decide)
theorem l_res1 (A I : Option Addr) (c c0 : Nat) (w : World) (ha : RdR w A xb.r) (hi : Rd w I [1, 1]) :
    Calls Try.prog 61 #[.agg #[.int .i64 2, .int .i64 2, .slice A 2 c], .slice I 2 c0] w (JzP w 1) :=
  (restrict_any xb A 2 c [1, 1] I 2 c0 w ha rfl (by omega) xb_len hi rfl (by omega)).mono fun _ _ h => JeP.no h (by decide +kernel) (by decide)
end Go.Proofs.Ytgafpmgdpigliaa
