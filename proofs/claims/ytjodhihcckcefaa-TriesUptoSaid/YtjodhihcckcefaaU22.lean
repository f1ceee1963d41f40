/-
  Contract: whether nodes are those of a tree in the order of its words. No statement is proved here.
-/
import Derived.Test.YtjodhihcckcefaaU21
namespace Go.Proofs.Ytjodhihcckcefaa
open Go.RowKit Go.Maps

/-- The next nodes follow each other: the number behind the last of them. -/
def chs : List Int → Int → Option Int
  | [], m => some m
  | z :: zs, m => if z = -1 then chs zs m else if z = m then chs zs (m + 1) else none
/-- From node k on, m nodes having been met. -/
def fmr (I : Int) : Nat → List Nd → Int → Option Int
  | _, [], m => some m
  | k, x :: xs, m => if m ≤ (k : Int) ∨ (x.1.length : Int) ≠ I ∨ (nxB x.1 = false ∧ x.2 = false) then none else match chs x.1 m with
    | none => none
    | some m' => fmr I (k + 1) xs m'
def chk2 (I : Int) (k : Nat) (rest : List Nd) (zs : List Int) (m : Int) : Option Int := match chs zs m with
  | none => none
  | some m' => fmr I (k + 1) rest m'
def fmB (I : Int) (ns : List Nd) : Bool := if ns.length = 0 then true else if 65537 < ns.length then false else fmr I 0 ns 1 == some (ns.length : Int)
theorem fmr_bad {I : Int} {k : Nat} {x : Nd} {xs : List Nd} {m : Int} (h : m ≤ (k : Int) ∨ (x.1.length : Int) ≠ I ∨ (nxB x.1 = false ∧ x.2 = false)) : fmr I k (x :: xs) m = none := by unfold fmr; rw [if_pos h]
theorem fmr_ok {I : Int} {k : Nat} {x : Nd} {xs : List Nd} {m : Int} (h : ¬ (m ≤ (k : Int) ∨ (x.1.length : Int) ≠ I ∨ (nxB x.1 = false ∧ x.2 = false))) : fmr I k (x :: xs) m = chk2 I k xs x.1 m := by
  conv => lhs; unfold fmr
  rw [if_neg h]
  rfl
theorem chk2_nil {I : Int} {k : Nat} {rest : List Nd} {m : Int} : chk2 I k rest [] m = fmr I (k + 1) rest m := rfl
theorem chs_none {zs : List Int} {m : Int} : chs (-1 :: zs) m = chs zs m := by
  conv => lhs; unfold chs
  rw [if_pos rfl]
theorem chs_met {zs : List Int} {m : Int} (h : m ≠ -1) : chs (m :: zs) m = chs zs (m + 1) := by
  conv => lhs; unfold chs
  rw [if_neg h, if_pos rfl]
theorem chs_bad {z : Int} {zs : List Int} {m : Int} (h : z ≠ -1) (h2 : z ≠ m) : chs (z :: zs) m = none := by
  unfold chs
  rw [if_neg h, if_neg h2]
theorem chk2_none {I : Int} {k : Nat} {rest : List Nd} {zs : List Int} {m : Int} : chk2 I k rest (-1 :: zs) m = chk2 I k rest zs m := by unfold chk2; rw [chs_none]
theorem chk2_met {I : Int} {k : Nat} {rest : List Nd} {zs : List Int} {m : Int} (h : m ≠ -1) : chk2 I k rest (m :: zs) m = chk2 I k rest zs (m + 1) := by unfold chk2; rw [chs_met h]
theorem chk2_bad {I : Int} {k : Nat} {rest : List Nd} {z : Int} {zs : List Int} {m : Int} (h : z ≠ -1) (h2 : z ≠ m) : chk2 I k rest (z :: zs) m = none := by unfold chk2; rw [chs_bad h h2]
theorem drop_at {α : Type} {l : List α} {k : Nat} {x : α} (h : l[k]? = some x) : l.drop k = x :: l.drop (k + 1) := by
  obtain ⟨hk, rfl⟩ := List.getElem?_eq_some_iff.1 h
  exact List.drop_eq_getElem_cons hk
theorem chs_le : ∀ {zs : List Int} {m r : Int}, chs zs m = some r → m ≤ r
  | [], m, r, h => by injection h with h; omega
  | z :: zs, m, r, h => by
    unfold chs at h
    split at h
    · exact chs_le h
    · split at h
      · have := chs_le h; omega
      · cases h
theorem fmr_le {I : Int} : ∀ {ns : List Nd} {k : Nat} {m r : Int}, fmr I k ns m = some r → m ≤ r
  | [], _, m, r, h => by injection h with h; omega
  | x :: xs, k, m, r, h => by
    unfold fmr at h
    split at h
    · cases h
    · split at h
      · cases h
      · rename_i m' hm
        have h1 := chs_le hm
        have h2 := fmr_le h
        omega
theorem chk2_le {I : Int} {k : Nat} {rest : List Nd} {zs : List Int} {m r : Int} (h : chk2 I k rest zs m = some r) : m ≤ r := by
  unfold chk2 at h
  split at h
  · cases h
  · rename_i m' hm
    have h1 := chs_le hm
    have h2 := fmr_le h
    omega
set_option maxRecDepth 100000 in
set_option maxHeartbeats 2000000 in
theorem formed_any (A : Option Addr) (c N : Nat) (ns : List Nd) (I : Int) (w : World) (h : RdN w A ns) (hN : ns.length = N) (hm : N ≤ 9223372036854775807) (hI : I ≤ 16) :
    Calls Try.prog 73 #[.agg #[.int .i64 I, .slice A N c]] w fun e w' => e = .returned (.bool (fmB I ns)) ∧ Below w.heap.size w w' := by
  obtain ⟨W, hW⟩ : ∃ W, w.alloc (.cells #[.int .i64 I, .slice A N c] 56) = W := ⟨_, rfl⟩
  have bW : Below w.heap.size w W := by rw [← hW]; exact (Below.refl _ _).alloc (Nat.le_refl _) _
  have xW : Bx2 W w.heap.size 56 (.int .i64 I) (.slice A N c) := by rw [← hW]; exact Bx2.new _ _ _ _
  have XW := Lib.hid xW
  have HN := Lib.hid hN
  have HH := Lib.hid (h.below bW)
  have BW := Lib.hid bW
  obtain ⟨x0, x1, _, _⟩ := xW.cells
  obtain ⟨R, hR⟩ : ∃ R, fmB I ns = R := ⟨_, rfl⟩
  rw [hR]
  clear h hN bW xW
  rcases Nat.eq_zero_or_pos N with h0 | h0
  · subst h0
    obtain rfl : R = true := by rw [← hR]; unfold fmB; rw [if_pos HN.out]
    clear hR
    go_enter Try.func73, Try.ntmps73
    go_wp2
    go_ret
    exact ⟨rfl, BW.out⟩
  · have hn0 : ((N : Int) == 0) = false := by rw [beq_eq_false_iff_ne]; omega
    have hn0' : ¬ N = 0 := by omega
    by_cases hbig : 65537 < N
    · have d1 : decide ((65537 : Int) < N) = true := decide_eq_true (by omega)
      have d2 : (65537 : Int) < N := by omega
      obtain rfl : R = false := by rw [← hR]; unfold fmB; rw [if_neg (by rw [HN.out]; omega), if_pos (by rw [HN.out]; omega)]
      clear hR
      go_enter Try.func73, Try.ntmps73
      go_wp2
      go_ret
      exact ⟨rfl, BW.out⟩
    · have d1 : decide ((65537 : Int) < N) = false := decide_eq_false (by omega)
      have d2 : ¬ (65537 : Int) < N := by omega
      have hR2 : (fmr I 0 (ns.drop 0) 1 == some (N : Int)) = R := by
        rw [← hR]; unfold fmB; rw [if_neg (by rw [HN.out]; omega), if_neg (by rw [HN.out]; omega), HN.out]; rfl
      have HR := Lib.hid hR2
      clear hR hR2
      go_enter Try.func73, Try.ntmps73
      go_wp2
      clear x0 x1 d1 d2 hn0 hn0'
      go_loopw [3, 19] (fun u v wr => ∃ (k : Nat) (m : Int), k ≤ N ∧ u = .int .i64 m ∧ v = .int .i64 k ∧ 1 ≤ m ∧ m ≤ 1 + k * 16 ∧ Hid ((fmr I k (ns.drop k) m == some (N : Int)) = R) ∧ Hid (Below W.heap.size W wr)) (fun _ v _ => N - (intOf v).toNat)
      case atStart => exact ⟨0, 1, Nat.zero_le _, rfl, rfl, Int.le_refl _, by omega, HR.out, Below.refl _ _⟩
      case round =>
        clear HR
        obtain ⟨k, m, hk, rfl, rfl, hm1, hm2, hf, hb⟩ := hrel
        by_cases hlt : k < N
        · obtain ⟨x, hx⟩ : ∃ x, ns[k]? = some x := ⟨_, List.getElem?_eq_getElem (by rw [HN.out]; exact hlt)⟩
          obtain ⟨b, off, B, cc, q, rfl, hbl, hc0, hc1, hrd, hq⟩ := (HH.out.below hb.out).at_ hx
          obtain ⟨xs, xe⟩ := x
          simp only at hc1 hrd hq
          have hf2 := hf.out
          rw [drop_at hx] at hf2
          obtain ⟨X, hX⟩ : ∃ X, wr.alloc (.cells #[.slice B q cc, .bool xe] 64) = X := ⟨_, rfl⟩
          have bX : Below wr.heap.size wr X := by rw [← hX]; exact (Below.refl _ _).alloc (Nat.le_refl _) _
          have xX : Bx2 X wr.heap.size 64 (.slice B q cc) (.bool xe) := by rw [← hX]; exact Bx2.new _ _ _ _
          obtain ⟨y0, y1, _, _⟩ := xX.cells
          obtain ⟨z0, z1, _, _⟩ := ((XW.out.below hb.out).below bX).cells
          have BX := Lib.hid (below_next hb.out bX)
          have XX := Lib.hid xX
          have HX := Lib.hid (hrd.below bX)
          have hXN := hX
          clear hX hx hrd xX hb hf
          by_cases h1 : m ≤ (k : Int)
          · have hR3 := hf2
            rw [fmr_bad (Or.inl h1)] at hR3
            obtain rfl : R = false := by rw [← hR3]; rfl
            have e1 : decide (m ≤ (k : Int)) = true := decide_eq_true h1
            clear hR3 hf2 bX
            go_wp2
            go_ret
            exact ⟨rfl, below_next BW.out BX.out⟩
          · have e1 : decide (m ≤ (k : Int)) = false := decide_eq_false h1
            by_cases h2 : (q : Int) ≠ I
            · have hR3 := hf2
              rw [fmr_bad (Or.inr (Or.inl (by simp only; rw [hq.out]; exact h2)))] at hR3
              obtain rfl : R = false := by rw [← hR3]; rfl
              have e2 : ((q : Int) != I) = true := by rw [bne_iff_ne]; exact h2
              clear hR3 hf2 bX
              go_wp2
              go_ret
              exact ⟨rfl, below_next BW.out BX.out⟩
            · have e2 : ((q : Int) != I) = false := by rw [bne_eq_false_iff_eq]; omega
              have hqI : (q : Int) = I := by omega
              have CL := Lib.hid (isLeaf_any B q cc xs xe X HX.out hq.out (by omega))
              obtain ⟨nb, hnb⟩ : ∃ nb, nxB xs = nb := ⟨_, rfl⟩
              rw [hnb] at CL
              cases hbad : (!nb && !xe) with
              | true =>
                rw [Bool.and_eq_true, Bool.not_eq_true', Bool.not_eq_true'] at hbad
                obtain ⟨rfl, hxe⟩ := hbad
                have hR3 := hf2
                rw [fmr_bad (Or.inr (Or.inr ⟨hnb, hxe⟩))] at hR3
                obtain rfl : R = false := by rw [← hR3]; rfl
                have HXE := Lib.hid hxe
                clear hR3 hf2 bX hxe
                go_wp2_with fail
                refine CL.out.mono ?_
                rintro e w3 ⟨rfl, hb3⟩
                obtain ⟨y0, y1, _, _⟩ := (XX.out.below hb3).cells
                obtain rfl := HXE.out
                go_wp2
                go_ret
                exact ⟨rfl, below_next (below_next BW.out BX.out) hb3⟩
              | false =>
                have hR3 := hf2
                rw [fmr_ok (by
                  rintro (h9 | h9 | ⟨h9, h8⟩)
                  · exact h1 h9
                  · simp only [hq.out] at h9; exact h2 h9
                  · simp only at h9 h8
                    rw [hnb] at h9
                    rw [h9, h8] at hbad
                    cases hbad)] at hR3
                obtain ⟨rest, hrest⟩ : ∃ rest, ns.drop (k + 1) = rest := ⟨_, rfl⟩
                rw [hrest] at hR3
                have HRS := Lib.hid hrest
                simp only at hR3
                have HR3 := Lib.hid hR3
                clear hR3 hf2 bX hrest hnb
                cases nb with
                | true =>
                  go_wp2_with fail
                  refine CL.out.mono ?_
                  rintro e w3 ⟨rfl, hb3⟩
                  obtain ⟨y0, y1, _, _⟩ := (XX.out.below hb3).cells
                  have B3 := Lib.hid (below_next BX.out hb3)
                  have H3 := Lib.hid (HX.out.below hb3)
                  clear hb3 CL z0 z1 hXN
                  go_wp2
                  obtain ⟨W3, rfl⟩ : ∃ W3 : World, W3 = w3 := ⟨_, rfl⟩
                  go_loopw [3, 47] (fun u v wr => ∃ (j : Nat) (m' : Int), j ≤ q ∧ u = .int .i64 m' ∧ v = .int .i64 j ∧ 1 ≤ m' ∧ m' ≤ 1 + k * 16 + j ∧ Hid ((chk2 I k rest (xs.drop j) m' == some (N : Int)) = R) ∧ Hid (Below W3.heap.size W3 wr)) (fun _ v _ => q - (intOf v).toNat)
                  case atStart => exact ⟨0, m, Nat.zero_le _, rfl, rfl, hm1, by omega, HR3.out, Below.refl _ _⟩
                  case round =>
                    clear HR3 y0 y1
                    obtain ⟨j, m', hj, rfl, rfl, hm1', hm2', hf, hb⟩ := hrel
                    by_cases hlt2 : j < q
                    · obtain ⟨b2, off2, z, rfl, hb2, hc2, hz⟩ := (H3.out.below hb.out).at_ (k := j) (by rw [hq.out]; exact hlt2)
                      have hzs : xs[j]? = some z := by
                        have := hz.out
                        rw [List.getElem?_eq_getElem (by rw [hq.out]; exact hlt2)] at this ⊢
                        exact congrArg some this
                      have hf2 := hf.out
                      rw [drop_at hzs] at hf2
                      clear hz hzs hf
                      by_cases e3 : z = -1
                      · subst e3
                        rw [chk2_none] at hf2
                        have HF := Lib.hid hf2
                        clear hf2
                        go_wp2
                        go_roundw
                        case rel => exact ⟨j + 1, m', by omega, rfl, by go_num, hm1', by omega, HF, hb⟩
                        case measure => simp [intOf]; omega
                      · have d3 : (z == -1) = false := by rw [beq_eq_false_iff_ne]; exact e3
                        by_cases e4 : z = m'
                        · subst e4
                          rw [chk2_met e3] at hf2
                          have HF := Lib.hid hf2
                          have d4 : (z != z) = false := by simp
                          clear hf2
                          go_wp2
                          go_roundw
                          case rel => exact ⟨j + 1, z + 1, by omega, by go_num, by go_num, by omega, by omega, HF, hb⟩
                          case measure => simp [intOf]; omega
                        · rw [chk2_bad e3 e4] at hf2
                          obtain rfl : R = false := by rw [← hf2]; rfl
                          have d4 : (z != m') = true := by rw [bne_iff_ne]; exact e4
                          clear hf2
                          go_wp2
                          go_ret
                          exact ⟨rfl, below_next BW.out (below_next B3.out hb.out)⟩
                    · obtain rfl : j = q := by omega
                      have hf2 := hf.out
                      rw [List.drop_of_length_le (by rw [hq.out]; omega), chk2_nil, ← HRS.out] at hf2
                      have HF := Lib.hid hf2
                      have HB := Lib.hid (below_next B3.out hb.out)
                      clear hf2 hf hb
                      go_wp2
                      go_roundw
                      case rel => exact ⟨k + 1, m', by omega, rfl, by go_num, hm1', by omega, HF, HB⟩
                      case measure => simp [intOf]; omega
                | false =>
                  obtain rfl : xe = true := by cases xe with
                    | true => rfl
                    | false => cases hbad
                  go_wp2_with fail
                  refine CL.out.mono ?_
                  rintro e w3 ⟨rfl, hb3⟩
                  obtain ⟨y0, y1, _, _⟩ := (XX.out.below hb3).cells
                  have B3 := Lib.hid (below_next BX.out hb3)
                  have H3 := Lib.hid (HX.out.below hb3)
                  clear hb3 CL z0 z1 hXN
                  go_wp2
                  obtain ⟨W3, rfl⟩ : ∃ W3 : World, W3 = w3 := ⟨_, rfl⟩
                  go_loopw [3, 47] (fun u v wr => ∃ (j : Nat) (m' : Int), j ≤ q ∧ u = .int .i64 m' ∧ v = .int .i64 j ∧ 1 ≤ m' ∧ m' ≤ 1 + k * 16 + j ∧ Hid ((chk2 I k rest (xs.drop j) m' == some (N : Int)) = R) ∧ Hid (Below W3.heap.size W3 wr)) (fun _ v _ => q - (intOf v).toNat)
                  case atStart => exact ⟨0, m, Nat.zero_le _, rfl, rfl, hm1, by omega, HR3.out, Below.refl _ _⟩
                  case round =>
                    clear HR3 y0 y1
                    obtain ⟨j, m', hj, rfl, rfl, hm1', hm2', hf, hb⟩ := hrel
                    by_cases hlt2 : j < q
                    · obtain ⟨b2, off2, z, rfl, hb2, hc2, hz⟩ := (H3.out.below hb.out).at_ (k := j) (by rw [hq.out]; exact hlt2)
                      have hzs : xs[j]? = some z := by
                        have := hz.out
                        rw [List.getElem?_eq_getElem (by rw [hq.out]; exact hlt2)] at this ⊢
                        exact congrArg some this
                      have hf2 := hf.out
                      rw [drop_at hzs] at hf2
                      clear hz hzs hf
                      by_cases e3 : z = -1
                      · subst e3
                        rw [chk2_none] at hf2
                        have HF := Lib.hid hf2
                        clear hf2
                        go_wp2
                        go_roundw
                        case rel => exact ⟨j + 1, m', by omega, rfl, by go_num, hm1', by omega, HF, hb⟩
                        case measure => simp [intOf]; omega
                      · have d3 : (z == -1) = false := by rw [beq_eq_false_iff_ne]; exact e3
                        by_cases e4 : z = m'
                        · subst e4
                          rw [chk2_met e3] at hf2
                          have HF := Lib.hid hf2
                          have d4 : (z != z) = false := by simp
                          clear hf2
                          go_wp2
                          go_roundw
                          case rel => exact ⟨j + 1, z + 1, by omega, by go_num, by go_num, by omega, by omega, HF, hb⟩
                          case measure => simp [intOf]; omega
                        · rw [chk2_bad e3 e4] at hf2
                          obtain rfl : R = false := by rw [← hf2]; rfl
                          have d4 : (z != m') = true := by rw [bne_iff_ne]; exact e4
                          clear hf2
                          go_wp2
                          go_ret
                          exact ⟨rfl, below_next BW.out (below_next B3.out hb.out)⟩
                    · obtain rfl : j = q := by omega
                      have hf2 := hf.out
                      rw [List.drop_of_length_le (by rw [hq.out]; omega), chk2_nil, ← HRS.out] at hf2
                      have HF := Lib.hid hf2
                      have HB := Lib.hid (below_next B3.out hb.out)
                      clear hf2 hf hb
                      go_wp2
                      go_roundw
                      case rel => exact ⟨k + 1, m', by omega, rfl, by go_num, hm1', by omega, HF, HB⟩
                      case measure => simp [intOf]; omega
        · obtain rfl : k = N := by omega
          have hf2 := hf.out
          rw [List.drop_of_length_le (by rw [HN.out]; omega)] at hf2
          obtain ⟨z0, z1, _, _⟩ := (XW.out.below hb.out).cells
          have hfin : Hid ((m == (k : Int)) = R) := by rw [← hf2]; rfl
          clear hf2 hf
          go_wp2
          go_ret
          exact ⟨by rw [← hfin.out]; rfl, below_next BW.out hb.out⟩
end Go.Proofs.Ytjodhihcckcefaa
