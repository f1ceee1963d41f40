/-
  Contract: Path. No statement is proved here.
-/
import Derived.Test.YtldpfbmkmehadaaWb2
namespace Go.Proofs.Ytldpfbmkmehadaa
open Go.RowKit
open Mc (Ed Ma Wv)
attribute [local go_sem] Oper.semAt_some

/-- The memory of Path: the state that is looked for, the results. -/
structure Ph (w : World) (h : Nat) (t : Int) (v : Value) (b : Bool) (e : Int) (W : World) : Prop where
  bel : Below w.heap.size w W
  bt : Box W (h + 1) (.int .i64 t)
  r0 : Box W (h + 1 + 1) v
  r1 : Box W (h + 1 + 1 + 1) (.bool b)
  r2 : Box W (h + 1 + 1 + 1 + 1) (.int .i64 e)
  hh : w.heap.size = h
section
variable {w W W' : World} {h : Nat} {t : Int} {v : Value} {b : Bool} {e : Int}
theorem Ph.ch {M : Nat} (x : Ph w h t v b e W) (k : Ch M W W') (h1 : h + 5 ≤ M) : Ph w h t v b e W' :=
  ⟨k.below (by have := x.hh; omega) x.bel, x.bt.ch k (by omega), x.r0.ch k (by omega), x.r1.ch k (by omega), x.r2.ch k (by omega), x.hh⟩
theorem Ph.below (x : Ph w h t v b e W) (k : Below W.heap.size W W') : Ph w h t v b e W' :=
  ⟨below_next x.bel k, x.bt.below k, x.r0.below k, x.r1.below k, x.r2.below k, x.hh⟩
theorem Ph.put (x : Ph w h t v b e W) (v' : Value) (b' : Bool) (e' : Int) : Ph w h t v' b' e' (((W.setCell ⟨h + 1 + 1, 0, none⟩ v').setCell ⟨h + 1 + 1 + 1, 0, none⟩ (.bool b')).setCell ⟨h + 1 + 1 + 1 + 1, 0, none⟩ (.int .i64 e')) := by
  have hh := x.hh
  exact ⟨((x.bel.setCell (p := ⟨h + 1 + 1, 0, none⟩) (by show _ ≤ h + 1 + 1; omega) _).setCell (p := ⟨h + 1 + 1 + 1, 0, none⟩) (by show _ ≤ h + 1 + 1 + 1; omega) _).setCell (p := ⟨h + 1 + 1 + 1 + 1, 0, none⟩) (by show _ ≤ h + 1 + 1 + 1 + 1; omega) _,
    ((x.bt.far (by omega) _).far (by omega) _).far (by omega) _, ((x.r0.set_ _).far (by omega) _).far (by omega) _, (((x.r1.far (by omega) _).set_ _).far (by omega) _), (((x.r2.far (by omega) _).far (by omega) _).set_ _), hh⟩
end
/-- The blocks of the results. -/
def PhD (h : Nat) (b : Nat) : Prop := b = h + 1 + 1 ∨ b = h + 1 + 1 + 1 ∨ b = h + 1 + 1 + 1 + 1
theorem PhD.ka (W : World) (h : Nat) (v : Value) (b : Bool) (e : Int) : KA (PhD h) W (((W.setCell ⟨h + 1 + 1, 0, none⟩ v).setCell ⟨h + 1 + 1 + 1, 0, none⟩ (.bool b)).setCell ⟨h + 1 + 1 + 1 + 1, 0, none⟩ (.int .i64 e)) :=
  ((KA.set (D := PhD h) _ (.inl rfl) _).trans (KA.set (D := PhD h) _ (.inr (.inl rfl)) _)).trans (KA.set (D := PhD h) _ (.inr (.inr rfl)) _)
/-- None of the first ones is the state that is looked for. -/
def NoT (L : List Wv) (k : Nat) (t : Int) : Prop := ∀ e ∈ L.take k, e.1 ≠ t
/-- What Path hands back. -/
def PthP (w : World) (m : Ma) (s t : Int) (e : Ending) (w' : World) : Prop := ∃ B k, e = .returned (.tuple #[.slice B k k, .bool (Mc.pthB m s t), .int .i64 (Mc.chkS m [s, t])]) ∧ Hid ((Mc.pthV m s t).length = k) ∧ Rd w' B (Mc.pthV m s t) ∧ Below w.heap.size w w'

set_option maxRecDepth 100000 in
set_option maxHeartbeats 4000000 in
theorem wpath_any (i o : Int) (rs : List (List Ed)) (A : Option Addr) (n c : Nat) (s t : Int) (w : World) (hr : RdR w A rs) (hn : rs.length = n) (hnb : n ≤ 1000000) (hrl : ∀ row ∈ rs, row.length ≤ 1000000) :
    Calls Try.prog 19 #[.agg #[.int .i64 i, .int .i64 o, .slice A n c], .int .i64 s, .int .i64 t] w (PthP w ⟨i, o, rs⟩ s t) := by
  have RL := Lib.hid hrl
  have HN := Lib.hid hn
  obtain ⟨mm, _⟩ : ∃ mm : Nat, True := ⟨3, trivial⟩
  obtain ⟨h, hh⟩ : ∃ h, w.heap.size = h := ⟨_, rfl⟩
  obtain ⟨W1, hW1⟩ : ∃ W1, ((((boxM w i o A n c).alloc (.cells #[.int .i64 t] 3)).alloc (.cells #[.slice none 0 0] 36)).alloc (.cells #[.bool false] 4)).alloc (.cells #[.int .i64 0] 31) = W1 := ⟨_, rfl⟩
  have hz1 : W1.heap.size = h + 5 := by rw [← hW1, ← hh]; simp
  have hP1 : Ph w h t (.slice none 0 0) false 0 W1 := by
    rw [← hW1]
    refine ⟨?_, ((Box.new_ (by simp [hh]) _ _).alloc _).alloc _ |>.alloc _, ((Box.new_ (by simp [hh]) _ _).alloc _).alloc _, (Box.new_ (by simp [hh]) _ _).alloc _, Box.new_ (by simp [hh]) _ _, hh⟩
    exact (((((Below.refl _ _).alloc (Nat.le_refl _) _).alloc (by simp) _).alloc (by simp; omega) _).alloc (by simp; omega) _).alloc (by simp; omega) _
  have hM1 : BxM W1 h i o A n c := by
    rw [← hW1]
    exact ((((BxM.newE hh i o A n c).mvB ((Below.refl _ _).alloc (Nat.le_refl _) _)).mvB ((Below.refl _ _).alloc (Nat.le_refl _) _)).mvB ((Below.refl _ _).alloc (Nat.le_refl _) _)).mvB ((Below.refl _ _).alloc (Nat.le_refl _) _)
  have hbA : Below W1.heap.size W1 (W1.alloc (.cells #[.int .i64 s, .int .i64 t] 3)) := (Below.refl _ _).alloc (Nat.le_refl _) _
  have hS1 : Rd (W1.alloc (.cells #[.int .i64 s, .int .i64 t] 3)) (some ⟨h + 5, 0, none⟩) [s, t] := by
    have := Rd.of_block (t := 3) (zs := [s, t]) (heap_alloc_new W1 _)
    rw [hz1] at this
    exact this
  obtain ⟨q0, q1, q2⟩ := hM1.cells
  have t0 := hP1.bt.1
  have hMA := hM1.mvB hbA
  have hPA := hP1.below hbA
  have hrA := hr.below hPA.bel
  clear hrl
  refine (callsIn_wide (n := mm)).1 ?_
  refine callsIn_of_wp_marks Try.func19 rfl trivial ?_
  simp only [Try.ntmps19, List.size_toArray, List.length_cons, List.length_nil, Nat.reduceAdd, Nat.reduceSub, Array.replicate_succ, Array.replicate_zero, List.push_toArray, List.append_toArray, List.nil_append, List.cons_append]
  gi_wp2_with fail
  refine wide_calls (wcheck_any i o rs A n c _ 2 2 [s, t] _ hrA hn hnb RL.out hS1 rfl (by omega)) ?_
  rintro e w2 ⟨rfl, hb2⟩
  have hP2 := hPA.below hb2
  have hM2 := hMA.mvB hb2
  have hz2 : h + 5 < w2.heap.size := by have h1 := hb2.size; rw [World.size_alloc, hz1] at h1; omega
  have hN2 : Hid (∀ r, PhD h r → r < w2.heap.size) := fun r hr => by unfold PhD at hr; omega
  clear q0 q1 q2 t0 hb2 hMA hPA hM1 hP1 hS1 hrA hbA hW1 hz1
  obtain ⟨q0, q1, q2⟩ := hM2.cells
  have t0 := hP2.bt.1
  have x0 := hP2.r0.1
  have y0 := hP2.r0.2
  have x1 := hP2.r1.1
  have y1 := hP2.r1.2
  have x2 := hP2.r2.1
  have y2 := hP2.r2.2
  by_cases hz : Mc.chkS ⟨i, o, rs⟩ [s, t] = 0
  · have hv : Hid (Mc.pthV ⟨i, o, rs⟩ s t = Mc.oW ((Mc.wk ⟨i, o, rs⟩ s).lookup t)) := by
      show _ = _
      unfold Mc.pthV
      rw [if_pos hz]
    have hvb : Hid (Mc.pthB ⟨i, o, rs⟩ s t = Mc.oB ((Mc.wk ⟨i, o, rs⟩ s).lookup t)) := by
      show _ = _
      unfold Mc.pthB
      rw [if_pos hz]
    obtain ⟨V, hsr⟩ := Mc.chkS_ok hz
    have hs := hsr s (by simp)
    simp only [hn] at hs
    have HV := Lib.hid V
    have hr64 : n ≤ 64 := by have := V.r1; simp only [hn] at this; exact this
    have HZ := Lib.hid hz
    obtain ⟨hs0, hs1⟩ := hs
    obtain ⟨s, rfl⟩ := Int.eq_ofNat_of_zero_le hs0
    rw [hz]
    clear V hsr hz
    gi_wp2_with fail
    refine wide_calls (walk_any _ _ _ _ _ _ _) ?_
    rintro e w4 ⟨rfl, rfl⟩
    gi_wp2_with fail
    obtain ⟨gB, hgB⟩ : ∃ gB, w2.heap.size = gB := ⟨_, rfl⟩
    obtain ⟨Wl, hWl⟩ : ∃ Wl, (boxM w2 i o A n c).alloc (.cells #[.int .i64 s] 3) = Wl := ⟨_, rfl⟩
    rw [hgB, hWl]
    have hbB : Below w2.heap.size w2 Wl := by rw [← hWl]; exact ((Below.refl _ _).alloc (Nat.le_refl _) _).alloc (by simp) _
    have hPl := hP2.below hbB
    have hbw := hPl.bel
    have hzl : Wl.heap.size = gB + 2 := by rw [← hWl, ← hgB]; simp
    have hbx : BxM Wl gB i o A rs.length c := by
      rw [← hWl, ← hgB, hn]
      exact (BxM.new w2 i o A n c).mvB ((Below.refl _ _).alloc (Nat.le_refl _) _)
    have hst : Wl.cell? ⟨gB + 1, 0, none⟩ = some (.int .i64 (s : Int)) := by
      rw [← hWl, ← hgB]
      exact (Box.new_ (by simp) (.int .i64 (s : Int)) 3).1
    have hG : GivesW (mm - 1) 53 #[.pointer (some ⟨gB + 1, 0, none⟩), .pointer (some ⟨gB, 0, none⟩)] (Mc.wk ⟨i, o, rs⟩ s) (PhD h) Wl :=
      walk1_gives (mm - 1) ⟨i, o, rs⟩ HV.out gB (gB + 1) A c s (PhD h) w Wl hr hbw hbx hst (by simp only [hn]; omega) (fun h => by unfold PhD at h; omega) (fun b h => by unfold PhD at h; omega) (fun b h => by unfold PhD at h; omega)
    have hBF := Lib.hid (Mc.wk_bf HV.out (s := (s : Int)) (by simp only [hn]; omega))
    have hhl : w.heap.size ≤ Wl.heap.size := hbw.size
    have hk0 : NoT (Mc.wk ⟨i, o, rs⟩ s) 0 t := fun e he => by simp at he
    clear q0 q1 q2 t0 x0 y0 x1 y1 x2 y2 hM2 hP2 hbB hbx hst hWl hbw
    refine range_words (m := mm) 53 _ rfl (enters_of Try.func53 (by kernel_rfl) rfl) (Mc.wk ⟨i, o, rs⟩ s) (PhD h) (fun b hb => by unfold PhD at hb; omega) rfl hG
      (fun k W => Ph w h t (.slice none 0 0) false 0 W ∧ NoT (Mc.wk ⟨i, o, rs⟩ s) k t)
      (fun c' W => c' = .ret ∧ ∃ (X : Option Addr) (xw : List Int), Ph w h t (.slice X xw.length xw.length) true 0 W ∧ OwnD (PhD h) W X xw ∧ Hid ((Mc.wk ⟨i, o, rs⟩ s).lookup t = some xw))
      (fun k A B h c => ⟨h.1.ch c (by omega), h.2⟩) (fun c' A B h c => by
        obtain ⟨h1, X, xw, h2, h3, h4⟩ := h
        exact ⟨h1, X, xw, h2.ch c (by omega), h3.ch c, h4⟩) ⟨hPl, hk0⟩ ?round ?done ?stop
    case round =>
      intro l k x X W hk hW hI hO
      obtain ⟨xs, xw⟩ := x
      obtain ⟨hI, hno⟩ := hI
      have HK := Lib.hid hk
      simp only [wvv]
      clear hk hG hPl hk0
      gi_wp2_with fail
      refine ⟨Below.refl _ _, fun W2 hc2 => ?_⟩
      have hI2 := hI.ch (Ch.of_cells hc2) (by omega)
      have hO2 := hO.cells hc2
      clear hI hc2 hO
      have t0 := hI2.bt.1
      have x0 := hI2.r0.1
      have y0 := hI2.r0.2
      obtain ⟨len, hlen⟩ : ∃ len, xw.length = len := ⟨_, rfl⟩
      have HLen := Lib.hid hlen
      have hX1 := (hI2.r0.set_ (.slice X len len))
      have x1 := (hI2.r1.far (c := h + 1 + 1) (by omega) (o := 0) (.slice X len len)).1
      have y1 := (hI2.r1.far (c := h + 1 + 1) (by omega) (o := 0) (.slice X len len)).2
      have x2 := ((hI2.r2.far (c := h + 1 + 1) (by omega) (o := 0) (.slice X len len)).far (c := h + 1 + 1 + 1) (by omega) (o := 0) (.bool true)).1
      have y2 := ((hI2.r2.far (c := h + 1 + 1) (by omega) (o := 0) (.slice X len len)).far (c := h + 1 + 1 + 1) (by omega) (o := 0) (.bool true)).2
      rw [hlen]
      by_cases hxt : xs = t
      · have hxb : (xs == t) = true := by rw [hxt]; exact beq_self_eq_true _
        have hfnd : Hid ((Mc.wk ⟨i, o, rs⟩ s).lookup t = some xw) := by
          have := hBF.out.mem_look HV.out (List.mem_of_getElem? HK.out)
          rw [hxt] at this
          exact this
        have hI5 := hI2.put (.slice X xw.length xw.length) true 0
        have hKA := PhD.ka W2 h (.slice X xw.length xw.length) true 0
        have R : roundP (PhD h) (fun k W => Ph w h t (.slice none 0 0) false 0 W ∧ NoT (Mc.wk ⟨i, o, rs⟩ s) k t) (fun c' W => c' = .ret ∧ ∃ (X : Option Addr) (xw : List Int), Ph w h t (.slice X xw.length xw.length) true 0 W ∧ OwnD (PhD h) W X xw ∧ Hid ((Mc.wk ⟨i, o, rs⟩ s).lookup t = some xw)) k W2 .ret ⟨#[], []⟩ (((W2.setCell ⟨h + 1 + 1, 0, none⟩ (.slice X xw.length xw.length)).setCell ⟨h + 1 + 1 + 1, 0, none⟩ (.bool true)).setCell ⟨h + 1 + 1 + 1 + 1, 0, none⟩ (.int .i64 0)) :=
          ⟨⟨rfl, X, xw, hI5, hO2.keep (KC.of_all hKA), hfnd⟩, hKA⟩
        rw [hlen] at R
        have RH := Lib.hid R
        clear R hI5 hKA hI2 hO2 hX1 hlen hxt hno
        gi_wp2_with fail
        exact RH.out
      · have hxb : (xs == t) = false := by rw [beq_eq_false_iff_ne]; exact hxt
        have hno2 : NoT (Mc.wk ⟨i, o, rs⟩ s) (k + 1) t := fun e he => by
          rw [Mc.take_snocW HK.out] at he
          rcases List.mem_append.1 he with he | he
          · exact hno e he
          · simp at he
            subst he
            exact hxt
        have R : roundP (PhD h) (fun k W => Ph w h t (.slice none 0 0) false 0 W ∧ NoT (Mc.wk ⟨i, o, rs⟩ s) k t) (fun c' W => c' = .ret ∧ ∃ (X : Option Addr) (xw : List Int), Ph w h t (.slice X xw.length xw.length) true 0 W ∧ OwnD (PhD h) W X xw ∧ Hid ((Mc.wk ⟨i, o, rs⟩ s).lookup t = some xw)) k W2 .normal ⟨#[], []⟩ W2 :=
          ⟨⟨hI2, hno2⟩, KA.refl _⟩
        have RH := Lib.hid R
        clear R hI2 hO2 hX1 hlen hxt hno
        gi_wp2_with fail
        exact RH.out
    case done =>
      intro N W hN hI hd
      obtain ⟨hI, hno⟩ := hI
      have hlk : Hid ((Mc.wk ⟨i, o, rs⟩ s).lookup t = none) := Mc.look_of_none (by unfold NoT at hno; rwa [List.take_length] at hno)
      have x0 := hI.r0.1
      have y0 := hI.r0.2
      have x1 := (hI.r1.far (c := h + 1 + 1) (by omega) (o := 0) (.slice none 0 0)).1
      have y1 := (hI.r1.far (c := h + 1 + 1) (by omega) (o := 0) (.slice none 0 0)).2
      have x2 := ((hI.r2.far (c := h + 1 + 1) (by omega) (o := 0) (.slice none 0 0)).far (c := h + 1 + 1 + 1) (by omega) (o := 0) (.bool false)).1
      have y2 := ((hI.r2.far (c := h + 1 + 1) (by omega) (o := 0) (.slice none 0 0)).far (c := h + 1 + 1 + 1) (by omega) (o := 0) (.bool false)).2
      have hI5 := hI.put (.slice none 0 0) false 0
      have hd5 : (((W.setCell ⟨h + 1 + 1, 0, none⟩ (.slice none 0 0)).setCell ⟨h + 1 + 1 + 1, 0, none⟩ (.bool false)).setCell ⟨h + 1 + 1 + 1 + 1, 0, none⟩ (.int .i64 0)).heap[N]? = some (.deferred (some [])) :=
        (Below.heap_setCell _ _ _ N (by show N ≠ h + 1 + 1 + 1 + 1; omega)).trans ((Below.heap_setCell _ _ _ N (by show N ≠ h + 1 + 1 + 1; omega)).trans ((Below.heap_setCell _ _ _ N (by show N ≠ h + 1 + 1; omega)).trans hd))
      have hI6 := hI5.ch (Ch.of_cells (Cells.put (B := h + 5) (.deferred none) hd5 rfl (by omega))) (Nat.le_refl _)
      have HI6 := Lib.hid hI6
      have HD5 := Lib.hid hd5
      clear hI hG hPl hI5 hI6 hd5
      simp only [marked]
      gi_wp2_with fail
      refine ⟨by simp, .inl ⟨_, _, rfl, run_takeDeferred HD5.out, ?_⟩⟩
      refine ⟨.tuple #[.slice none 0 0, .bool false, .int .i64 0], ?_, ⟨none, 0, by rw [hvb.out, hlk.out, HZ.out]; rfl, by rw [hv.out, hlk.out]; rfl, by rw [hv.out, hlk.out]; exact Rd.nil_, HI6.out.bel⟩⟩
      simp [results, Try.f19, go_sem, HI6.out.r0.1, HI6.out.r1.1, HI6.out.r2.1]
    case stop =>
      rintro N c' W hN ⟨rfl, X, xw, hI, hO, hlk⟩ hd
      have hc := Cells.put (B := h + 5) (.deferred none) hd rfl (by omega)
      have HI6 := Lib.hid (hI.ch (Ch.of_cells hc) (Nat.le_refl _))
      have HO6 := Lib.hid (hO.cells hc)
      have HD := Lib.hid hd
      clear hI hO hG hPl hd hc
      simp only [marked]
      gi_wp2_with fail
      refine ⟨by simp, .inl ⟨_, _, rfl, run_takeDeferred HD.out, ?_⟩⟩
      refine ⟨.tuple #[.slice X xw.length xw.length, .bool true, .int .i64 0], ?_, ⟨X, xw.length, by rw [hvb.out, hlk.out, HZ.out]; rfl, by rw [hv.out, hlk.out]; rfl, by rw [hv.out, hlk.out]; exact HO6.out.rd, HI6.out.bel⟩⟩
      simp [results, Try.f19, go_sem, HI6.out.r0.1, HI6.out.r1.1, HI6.out.r2.1]
  · have hzb : (Mc.chkS ⟨i, o, rs⟩ [s, t] == 0) = false := by rw [beq_eq_false_iff_ne]; exact hz
    have hv : Hid (Mc.pthV ⟨i, o, rs⟩ s t = []) := by
      show _ = _
      unfold Mc.pthV
      rw [if_neg hz]
    have hvb : Hid (Mc.pthB ⟨i, o, rs⟩ s t = false) := by
      show _ = _
      unfold Mc.pthB
      rw [if_neg hz]
    obtain ⟨z, hzz⟩ : ∃ z, Mc.chkS ⟨i, o, rs⟩ [s, t] = z := ⟨_, rfl⟩
    rw [hzz] at hz hzb ⊢
    have HZ := Lib.hid hzz
    have hzn : (z != 0) = true := by simpa using hz
    have HI6 := Lib.hid (hP2.put (.slice none 0 0) false z)
    have x1 := (hP2.r1.far (c := h + 1 + 1) (by omega) (o := 0) (.slice none 0 0)).1
    have y1 := (hP2.r1.far (c := h + 1 + 1) (by omega) (o := 0) (.slice none 0 0)).2
    have x2 := ((hP2.r2.far (c := h + 1 + 1) (by omega) (o := 0) (.slice none 0 0)).far (c := h + 1 + 1 + 1) (by omega) (o := 0) (.bool false)).1
    have y2 := ((hP2.r2.far (c := h + 1 + 1) (by omega) (o := 0) (.slice none 0 0)).far (c := h + 1 + 1 + 1) (by omega) (o := 0) (.bool false)).2
    clear hzz hP2 hM2
    gi_wp2_with fail
    refine ⟨.tuple #[.slice none 0 0, .bool false, .int .i64 z], ?_, ⟨none, 0, by rw [hvb.out, HZ.out], by rw [hv.out]; rfl, by rw [hv.out]; exact Rd.nil_, HI6.out.bel⟩⟩
    simp [results, Try.f19, go_sem, HI6.out.r0.1, HI6.out.r1.1, HI6.out.r2.1]
end Go.Proofs.Ytldpfbmkmehadaa
