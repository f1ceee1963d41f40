/-
  Contract: the reference: Equal of tries. No statement is proved here.
-/
import Derived.Test.YtjodhihcckcefaaV1
import Derived.Test.YtjodhihcckcefaaU22
import Derived.BigQuiet
namespace Go.Proofs.Ytjodhihcckcefaa
open Go.RowKit Go.Maps

/-- The worlds in which nothing below has changed. -/
structure BWt (wr : World) where
  out : World
  ok : Below wr.heap.size wr out
instance (wr : World) : Nonempty (BWt wr) := ⟨⟨wr, Below.refl _ _⟩⟩
theorem wp_region_quiet_bw {P : Program} {id : Nat} {Q : Exit → Act → World → Prop} {a : Act} {wr : World} {l : List Oper} (hm : P.follows .mixedOrders = true) (hB : Region.lexB .any l.toArray = true)
    (h : wpQuiet P l.toArray (fun w' => ∃ x : BWt wr, w' = x.out) (fun a' => ∀ w', (∃ x : BWt wr, w' = x.out) → Q .normal a' w') l a) : (Code.region id l.toArray true).wp P Q a wr :=
  wp_region_quiet (C := fun w' => ∃ x : BWt wr, w' = x.out) hm hB ⟨⟨_, (Below.refl _ _).drew⟩, rfl⟩ (by simpa using h)

theorem nds_ext {a b : List Nd} (hl : a.length = b.length) (h : ∀ i x, i < a.length → a[i]? = some x → b[i]? = some x) : a = b := by
  apply List.ext_getElem?
  intro i
  rcases Nat.lt_or_ge i a.length with hi | hi
  · rw [List.getElem?_eq_getElem hi]
    exact (h i _ hi (List.getElem?_eq_getElem hi)).symm
  · rw [List.getElem?_eq_none hi, List.getElem?_eq_none (by omega)]
set_option maxRecDepth 100000 in
set_option maxHeartbeats 4000000 in
theorem vequal_any (L K : Option Addr) (c d N N2 : Nat) (I I2 : Int) (n1 n2 : List Nd) (w : World) (h : RdN w L n1) (h' : RdN w K n2) (hN : n1.length = N) (hN2 : n2.length = N2) (hm : N ≤ 9223372036854775807) (hall : ∀ x ∈ n1, x.1.length ≤ 9223372036854775807) (R : Bool) (hR : R = true ↔ I = I2 ∧ n1 = n2) :
    Calls Try.prog 42 #[.agg #[.int .i64 I, .slice L N c], .agg #[.int .i64 I2, .slice K N2 d]] w fun e w' => e = .returned (.bool R) ∧ Below w.heap.size w w' := by
  obtain ⟨W, hW⟩ : ∃ W, (w.alloc (.cells #[.int .i64 I, .slice L N c] 56)).alloc (.cells #[.int .i64 I2, .slice K N2 d] 56) = W := ⟨_, rfl⟩
  have bW : Below w.heap.size w W := by rw [← hW]; exact ((Below.refl _ _).alloc (Nat.le_refl _) _).alloc (by simp) _
  have e1 : (w.alloc (.cells #[.int .i64 I, .slice L N c] 56)).heap.size = w.heap.size + 1 := by simp
  have xW : Bx2 W w.heap.size 56 (.int .i64 I) (.slice L N c) := by
    rw [← hW]; exact (Bx2.new w 56 (.int .i64 I) (.slice L N c)).below ((Below.refl _ _).alloc (Nat.le_refl _) _)
  have yW : Bx2 W (w.heap.size + 1) 56 (.int .i64 I2) (.slice K N2 d) := by
    rw [← hW]; have := Bx2.new (w.alloc (.cells #[.int .i64 I, .slice L N c] 56)) 56 (.int .i64 I2) (.slice K N2 d)
    rwa [e1] at this
  have HR := Lib.hid hR
  have HN := Lib.hid (And.intro hN hN2)
  have HH := Lib.hid (And.intro (h.below bW) (h'.below bW))
  have HA := Lib.hid hall
  have XW := Lib.hid (And.intro xW yW)
  have BW := Lib.hid bW
  obtain ⟨x0, x1, _, _⟩ := xW.cells
  obtain ⟨y0, y1, _, _⟩ := yW.cells
  have hno : ∀ {P : Prop}, ¬ P → (R = true → P) → R = false := fun h1 h2 => by
    cases hh : R with
    | false => rfl
    | true => exact absurd (h2 hh) h1
  clear hR hN hN2 h h' hall bW xW yW e1
  by_cases hI : I = I2
  · subst hI
    have dI : (I != I) = false := by simp
    by_cases hne : N = N2
    · subst hne
      have d0 : ((N : Int) != (N : Int)) = false := by simp
      go_enter Try.func42, Try.ntmps42
      go_wp2
      clear x0 x1 y0 y1 dI d0
      go_loopw [5] (fun v wr => ∃ j : Nat, j ≤ N ∧ v = .int .i64 j ∧ Hid (∀ i x, i < j → n1[i]? = some x → n2[i]? = some x) ∧ Hid (Below W.heap.size W wr)) (fun v _ => N - (intOf v).toNat)
      case atStart => exact ⟨0, Nat.zero_le _, rfl, fun i x hi => by omega, Below.refl _ _⟩
      case round =>
        obtain ⟨j, hj, rfl, ha, hb⟩ := hrel
        obtain ⟨x0, x1, _, _⟩ := (XW.out.1.below hb.out).cells
        obtain ⟨y0, y1, _, _⟩ := (XW.out.2.below hb.out).cells
        by_cases hlt : j < N
        · obtain ⟨x, hx⟩ : ∃ x, n1[j]? = some x := ⟨_, List.getElem?_eq_getElem (by rw [HN.out.1]; exact hlt)⟩
          obtain ⟨y, hy⟩ : ∃ y, n2[j]? = some y := ⟨_, List.getElem?_eq_getElem (by rw [HN.out.2]; exact hlt)⟩
          obtain ⟨b, off, A, ca, m, rfl, hbl, hc0, hc1, hrd, hml⟩ := (HH.out.1.below hb.out).at_ hx
          obtain ⟨b', off', A', ca', m', rfl, hbl', hc0', hc1', hrd', hml'⟩ := (HH.out.2.below hb.out).at_ hy
          have hxl := HA.out x (List.mem_of_getElem? hx)
          obtain ⟨xs, xe⟩ := x
          obtain ⟨ys, ye⟩ := y
          simp only at hc1 hc1' hrd hrd' hml hml' hxl
          have C1 : Hid (∀ wx, Below wr.heap.size wr wx → Calls Try.prog 48 #[.slice A m ca, .slice A' m' ca'] wx fun e w' => e = .returned (.int .i64 (M.cmp xs ys)) ∧ Below wx.heap.size wx w') := fun wx hbx => vcmp_at A A' m m' ca ca' _ _ wx (hrd.below hbx) (hrd'.below hbx) hml.out hml'.out (by rw [← hml.out]; exact hxl)
          obtain ⟨q, hq⟩ : ∃ q, M.cmp xs ys = q := ⟨_, rfl⟩
          rw [hq] at C1
          have HQ := Lib.hid hq
          have HXY := Lib.hid (And.intro hx hy)
          have f0 : ∀ x : BWt wr, x.out.cell? ⟨w.heap.size, 1, none⟩ = some (.slice (some ⟨b, off, none⟩) N c) := fun x => ((XW.out.1.below hb.out).below x.ok).cells.2.1
          have f1 : ∀ x : BWt wr, x.out.cell? ⟨w.heap.size + 1, 1, none⟩ = some (.slice (some ⟨b', off', none⟩) N d) := fun x => ((XW.out.2.below hb.out).below x.ok).cells.2.1
          have f2 : ∀ x : BWt wr, x.out.cell? ⟨b, off + j * 2, none⟩ = some (.slice A m ca) := fun x => ((bcell x.ok).1 _ _ hbl).trans hc0
          have f3 : ∀ x : BWt wr, x.out.cell? ⟨b, off + j * 2 + 1, none⟩ = some (.bool xe) := fun x => ((bcell x.ok).1 _ _ hbl).trans hc1
          have f4 : ∀ x : BWt wr, x.out.cell? ⟨b', off' + j * 2, none⟩ = some (.slice A' m' ca') := fun x => ((bcell x.ok).1 _ _ hbl').trans hc0'
          have f5 : ∀ x : BWt wr, x.out.cell? ⟨b', off' + j * 2 + 1, none⟩ = some (.bool ye) := fun x => ((bcell x.ok).1 _ _ hbl').trans hc1'
          clear hq hrd hrd' hx hy
          by_cases he : xe = ye
          · subst he
            have de : (xe != xe) = false := by simp
            by_cases hq0 : q = 0
            · subst hq0
              have HN2 : Hid (∀ i x, i < j + 1 → n1[i]? = some x → n2[i]? = some x) := fun i x hi hix => by
                rcases Nat.lt_or_ge i j with h1 | h1
                · exact ha.out i x h1 hix
                · obtain rfl : i = j := by omega
                  have h2 := HXY.out.1
                  rw [hix] at h2
                  injection h2 with h2
                  subst h2
                  have h3 := HXY.out.2
                  rw [← M.cmp_zero_iff.1 HQ.out] at h3
                  exact h3
              go_wp2_with fail
              clear x0 x1 y0 y1 hc0 hc1 hc0' hc1'
              refine wp_region_quiet_bw (by kernel_rfl) (by kernel_rfl) ?_
              repeat (go_big_quiet_step ((rename_i x; (with_reducible refine (C1.out _ x.ok).mono ?_); rintro e w2 ⟨rfl, hb2⟩; exact ⟨rfl, ⟨w2, below_next x.ok hb2⟩, rfl⟩)))
              refine wpQuiet_nil ?_
              intro w11 hw11
              obtain ⟨⟨wx, hbW⟩, hw3⟩ := hw11
              dsimp only at hw3
              subst hw3
              have HF := Lib.hid (below_next hb.out hbW)
              clear hbW ha
              go_wp2
              go_roundw
              case rel => exact ⟨j + 1, by omega, by go_num, HN2, HF⟩
              case measure => simp [intOf]; omega
            · have hq1 : (q != 0) = true := by simpa using hq0
              obtain rfl : R = false := hno (P := n1 = n2) (fun e => hq0 (by
                have h1 := HXY.out.1
                rw [e, HXY.out.2] at h1
                injection h1 with h1
                injection h1 with h1 _
                rw [← HQ.out, h1, M.cmp_self])) (fun e => (HR.out.1 e).2)
              go_wp2_with fail
              clear x0 x1 y0 y1 hc0 hc1 hc0' hc1'
              refine wp_region_quiet_bw (by kernel_rfl) (by kernel_rfl) ?_
              repeat (go_big_quiet_step ((rename_i x; (with_reducible refine (C1.out _ x.ok).mono ?_); rintro e w2 ⟨rfl, hb2⟩; exact ⟨rfl, ⟨w2, below_next x.ok hb2⟩, rfl⟩)))
              refine wpQuiet_nil ?_
              intro w11 hw11
              obtain ⟨⟨wx, hbW⟩, hw3⟩ := hw11
              dsimp only at hw3
              subst hw3
              have HF := Lib.hid (below_next hb.out hbW)
              clear hbW ha
              go_wp2
              go_ret
              exact ⟨rfl, below_next BW.out HF.out⟩
          · have de : (xe != ye) = true := by rw [bne_iff_ne]; exact he
            obtain rfl : R = false := hno (P := n1 = n2) (fun e => he (by
              have h1 := HXY.out.1
              rw [e, HXY.out.2] at h1
              injection h1 with h1
              injection h1 with _ h1
              exact h1.symm)) (fun e => (HR.out.1 e).2)
            clear HXY ha de
            cases xe <;> cases ye
            · exact absurd rfl he
            · clear he
              go_wp2_with fail
              clear x0 x1 y0 y1 hc0 hc1 hc0' hc1'
              refine wp_region_quiet_bw (by kernel_rfl) (by kernel_rfl) ?_
              repeat (go_big_quiet_step ((rename_i x; (with_reducible refine (C1.out _ x.ok).mono ?_); rintro e w2 ⟨rfl, hb2⟩; exact ⟨rfl, ⟨w2, below_next x.ok hb2⟩, rfl⟩)))
              refine wpQuiet_nil ?_
              intro w11 hw11
              obtain ⟨⟨wx, hbW⟩, hw3⟩ := hw11
              dsimp only at hw3
              subst hw3
              have HF := Lib.hid (below_next hb.out hbW)
              clear hbW
              go_wp2
              go_ret
              exact ⟨rfl, below_next BW.out HF.out⟩
            · clear he
              go_wp2_with fail
              clear x0 x1 y0 y1 hc0 hc1 hc0' hc1'
              refine wp_region_quiet_bw (by kernel_rfl) (by kernel_rfl) ?_
              repeat (go_big_quiet_step ((rename_i x; (with_reducible refine (C1.out _ x.ok).mono ?_); rintro e w2 ⟨rfl, hb2⟩; exact ⟨rfl, ⟨w2, below_next x.ok hb2⟩, rfl⟩)))
              refine wpQuiet_nil ?_
              intro w11 hw11
              obtain ⟨⟨wx, hbW⟩, hw3⟩ := hw11
              dsimp only at hw3
              subst hw3
              have HF := Lib.hid (below_next hb.out hbW)
              clear hbW
              go_wp2
              go_ret
              exact ⟨rfl, below_next BW.out HF.out⟩
            · exact absurd rfl he
        · obtain rfl : j = N := by omega
          obtain rfl : R = true := HR.out.2 ⟨by trivial, nds_ext (by rw [HN.out.1, HN.out.2]) fun i x hi hx => ha.out i x (by rw [← HN.out.1]; exact hi) hx⟩
          go_wp2
          go_ret
          exact ⟨rfl, below_next BW.out hb.out⟩
    · have d0 : ((N : Int) != (N2 : Int)) = true := by rw [bne_iff_ne]; omega
      obtain rfl : R = false := hno (P := n1 = n2) (fun e => hne (by rw [← HN.out.1, ← HN.out.2, e])) (fun e => (HR.out.1 e).2)
      go_enter Try.func42, Try.ntmps42
      go_wp2
      go_ret
      exact ⟨rfl, BW.out⟩
  · have dI : (I != I2) = true := by rw [bne_iff_ne]; exact hI
    obtain rfl : R = false := hno hI (fun e => (HR.out.1 e).1)
    go_enter Try.func42, Try.ntmps42
    go_wp2
    go_ret
    exact ⟨rfl, BW.out⟩
end Go.Proofs.Ytjodhihcckcefaa
