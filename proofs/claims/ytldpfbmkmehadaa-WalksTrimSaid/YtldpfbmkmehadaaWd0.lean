/-
  What a walk of a law knows on its way; the law's own edge, list and machine. No statement is proved here.
-/
import Derived.Test.YtldpfbmkmehadaaWc6
import Derived.Test.YtldpfbmkmehadaaSMc10
namespace Go.Proofs.Ytldpfbmkmehadaa
open Go.RowKit
open Mc (Ed Ma)

/-- What is known on the way. -/
abbrev MT (w w' : World) (L : List (World → Prop)) : Prop := MK (fun _ => True) w w' L
section
variable {w w1 w2 : World} {L : List (World → Prop)}
theorem MT.start : MT w w [] := MK.start trivial
theorem MT.next (h : MT w w1 L) (hb : Below w1.heap.size w1 w2) : MT w w2 L := ⟨trivial, below_next h.2.1 hb, fun p hp => ⟨(h.2.2 p hp).1, (h.2.2 p hp).1 _ _ (h.2.2 p hp).2 hb⟩⟩
theorem MT.alloc (h : MT w w1 L) (o : Obj) : MT w (w1.alloc o) L := h.next ((Below.refl _ _).alloc (Nat.le_refl _) o)
theorem MT.putK (h : MT w w1 L) {P : World → Prop} (hp : P w1) (hk : Kept P) : MT w w1 (P :: L) := MK.put h hk hp
end

/-! ### The law's own edge, list and machine -/
theorem edge_any (x y : Int) (w : World) : Calls Try.prog 36 #[.int .i64 x, .int .i64 y] w fun e w' => e = .returned (.agg #[.int .i64 x, .int .i64 y]) ∧ Below w.heap.size w w' := by
  go_enter Try.func36, Try.ntmps36
  go_wp2
  go_returns
  exact ⟨rfl, (Below.refl _ _).alloc (Nat.le_refl _) _⟩
theorem list_yes (A B : Option Addr) (n d : Nat) (x : List Int) (f : Int) (w : World) (hx : Rd w A x) (hy : Rd w B x) (hn : x.length = n) (hm : n ≤ 9223372036854775807) :
    Calls Try.prog 14 #[.slice A n n, .int .i64 f, .slice B n d, .int .i64 f] w fun e w' => e = .returned (.bool true) ∧ Below w.heap.size w w' := by
  subst hn
  have hs : Hid (M.same x x = true) := M.same_yes rfl
  have hff : (f == f) = true := by simp
  have hll : ((x.length : Int) == x.length) = true := by simp
  go_enter Try.func14, Try.ntmps14
  go_wp2_with fail
  refine (same_any _ _ _ _ _ _ _ hx hy hm).mono ?_
  rintro e w1 ⟨rfl, hb1⟩
  rw [hs.out]
  go_wp2
  go_ret
  exact ⟨rfl, hb1⟩

theorem rmsame_at (a b : Ma) (i o i' o' : Int) (A B : Option Addr) (n c k d : Nat) (w : World) (hi : a.i = i) (ho : a.o = o) (hi' : b.i = i') (ho' : b.o = o') (hn : a.r.length = n) (hk : b.r.length = k) (ha : RdR w A a.r) (hb : RdR w B b.r) (hl : n ≤ 1000000) (hl2 : ∀ row ∈ a.r, row.length ≤ 1000000) :
    Calls Try.prog 31 #[.agg #[.int .i64 i, .int .i64 o, .slice A n c], .agg #[.int .i64 i', .int .i64 o', .slice B k d]] w fun e w' => e = .returned (.bool (decide (a = b))) ∧ Below w.heap.size w w' := by
  subst hi ho hi' ho' hn hk
  exact rmsame_any a b A B c d w ha hb hl hl2
theorem rmsame_yes (a : Ma) (i o : Int) (A B : Option Addr) (n c d : Nat) (w : World) (hi : a.i = i) (ho : a.o = o) (hn : a.r.length = n) (ha : RdR w A a.r) (hb : RdR w B a.r) (hl : n ≤ 1000000) (hl2 : ∀ row ∈ a.r, row.length ≤ 1000000) :
    Calls Try.prog 31 #[.agg #[.int .i64 i, .int .i64 o, .slice A n c], .agg #[.int .i64 i, .int .i64 o, .slice B n d]] w fun e w' => e = .returned (.bool true) ∧ Below w.heap.size w w' := by
  have := rmsame_at a a i o i o A B n c n d w hi ho hi ho hn hn ha hb hl hl2
  rwa [show decide (a = a) = true by simp] at this

/-- Rows without spare room, in blocks of their own. -/
def Ex (W : World) (p k : Nat) (rs : List (List Ed)) : Prop := ∃ (gs : List Nat), gs.length = k ∧ rs.length = k ∧ k ≤ 1000000 ∧ (∀ row ∈ rs, row.length ≤ 1000000) ∧ Wb 0 p k rs gs W
theorem Ex.below {W W' : World} {p k : Nat} {rs : List (List Ed)} (h : Ex W p k rs) (b : Below W.heap.size W W') : Ex W' p k rs := by
  obtain ⟨gs, h1, h2, h3, h4, h5⟩ := h
  exact ⟨gs, h1, h2, h3, h4, h5.below b⟩
theorem Ex.kept (p k : Nat) (rs : List (List Ed)) : Kept (fun w => Ex w p k rs) := fun _ _ h b => h.below b
theorem Ex.rd {W : World} {p k : Nat} {rs : List (List Ed)} (h : Ex W p k rs) : RdR W (some ⟨p, 0, none⟩) rs := by
  obtain ⟨gs, h1, h2, h3, h4, h5⟩ := h
  exact h5.rd h1 h2.symm h3 h4
theorem Ex.at_ {W : World} {p k : Nat} {rs : List (List Ed)} (h : Ex W p k rs) {j : Nat} (hj : j < k) : ∃ A n, W.cell? ⟨p, j, none⟩ = some (.slice A n n) := by
  obtain ⟨gs, h1, h2, h3, h4, h5⟩ := h
  obtain ⟨g, hg⟩ : ∃ g, gs[j]? = some g := ⟨_, List.getElem?_eq_getElem (by omega)⟩
  obtain ⟨row, hr⟩ : ∃ row, rs[j]? = some row := ⟨_, List.getElem?_eq_getElem (by omega)⟩
  exact ⟨_, _, h5.at_ hg hr (by omega)⟩

set_option maxRecDepth 100000 in
set_option maxHeartbeats 2000000 in
theorem machine_yes (i o : Int) (rs : List (List Ed)) (p k d : Nat) (B : Option Addr) (w : World) (hm : Ex w p k rs) (hb : RdR w B rs) :
    Calls Try.prog 24 #[.agg #[.int .i64 i, .int .i64 o, .slice (some ⟨p, 0, none⟩) k k], .int .i64 0, .agg #[.int .i64 i, .int .i64 o, .slice B k d]] w fun e w' => e = .returned (.bool true) ∧ Below w.heap.size w w' := by
  have hbx : Below w.heap.size w ((boxM w i o (some ⟨p, 0, none⟩) k k).alloc (.cells #[.int .i64 i, .int .i64 o, .slice B k d] 27)) := ((Below.refl _ _).alloc (Nat.le_refl _) _).alloc (by simp) _
  have hb0 : BxM ((boxM w i o (some ⟨p, 0, none⟩) k k).alloc (.cells #[.int .i64 i, .int .i64 o, .slice B k d] 27)) w.heap.size i o (some ⟨p, 0, none⟩) k k := (BxM.new w _ _ _ _ _).mvB ((Below.refl _ _).alloc (Nat.le_refl _) _)
  have hb1 : BxM ((boxM w i o (some ⟨p, 0, none⟩) k k).alloc (.cells #[.int .i64 i, .int .i64 o, .slice B k d] 27)) (w.heap.size + 1) i o B k d := BxM.newE (w := boxM w i o (some ⟨p, 0, none⟩) k k) (by simp) _ _ _ _ _
  obtain ⟨q0, q1, q2⟩ := hb0.cells
  obtain ⟨z0, z1, z2⟩ := hb1.cells
  obtain ⟨gs, h1, h2, h3, h4, h5⟩ := Lib.hid hm |>.out
  have CS := rmsame_yes ⟨i, o, rs⟩ i o (some ⟨p, 0, none⟩) B k k d _ rfl rfl h2 (hm.below hbx).rd (hb.below hbx) h3 h4
  have HM := Lib.hid (hm.below hbx)
  have H0 := Lib.hid hb0
  have HX := Lib.hid hbx
  have hkk : ((k : Int) == k) = true := by simp
  have hk6 := h3
  clear hm hb hb0 hb1 h1 h2 h3 h4 h5 hbx
  go_enter Try.func24, Try.ntmps24
  go_wp2_with fail
  refine CS.mono ?_
  rintro e w1 ⟨rfl, hb1⟩
  have H1 := Lib.hid (H0.out.mvB hb1)
  have HM1 := Lib.hid (HM.out.below hb1)
  have HX1 := Lib.hid (below_next HX.out hb1)
  clear CS q0 q1 q2 z0 z1 z2 H0 HM HX hb1
  obtain ⟨q0, q1, q2⟩ := H1.out.cells
  go_wp2
  clear q0 q1 q2
  go_loopw [7] (fun v wr => ∃ j : Nat, j ≤ k ∧ v = .int .i64 j ∧ Hid (Below w.heap.size w wr) ∧ Hid (BxM wr w.heap.size i o (some ⟨p, 0, none⟩) k k) ∧ Hid (Ex wr p k rs)) (fun v _ => k - (intOf v).toNat)
  case atStart => exact ⟨0, by omega, rfl, HX1, H1, HM1⟩
  case round =>
    obtain ⟨j, hj, rfl, hX, hB, hE⟩ := hrel
    obtain ⟨q0, q1, q2⟩ := hB.out.cells
    by_cases hlt : j < k
    · have hdl : decide ((j : Int) < k) = true := decide_eq_true (by omega)
      obtain ⟨A, n, hc⟩ := hE.out.at_ hlt
      have hnn : ((n : Int) != n) = false := by simp
      have hj0 : (0 : Int) ≤ j := by omega
      have hjk : (j : Int) < k := by omega
      have hHj := Lib.hid hj
      clear HX1 H1 HM1 hj
      go_wp2
      go_quiet (fail)
      go_wp2
      go_roundw
      case rel => exact ⟨j + 1, by omega, by simp, Lib.hid (below_drewN' hX.out _), Lib.hid (hB.out.mvB (below_drewN' (Below.refl _ _) _)), Lib.hid (hE.out.below (below_drewN' (Below.refl _ _) _))⟩
      case measure => simp [intOf]; omega
    · have hdl : decide ((j : Int) < k) = false := decide_eq_false (by omega)
      have hfin := hX
      clear HX1 H1 HM1 hX hB hE
      go_wp2
      go_ret
      exact ⟨rfl, hfin.out⟩
end Go.Proofs.Ytldpfbmkmehadaa
