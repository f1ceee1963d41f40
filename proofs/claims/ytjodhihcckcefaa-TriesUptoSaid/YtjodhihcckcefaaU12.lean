/-
  Contracts: slices.Grow and slices.Concat over words; Union. No statement is proved here.
-/
import Derived.Test.YtjodhihcckcefaaU9
import Derived.Shelf.Spec.SlicesGrow
namespace Go.Proofs.Ytjodhihcckcefaa
open Go.RowKit Go.Shelf Go.Maps

def growRen : Go.Shelf.Ren := ⟨fun | 4 => 81 | n => n, fun | 22 => 22 | 25 => 23 | 0 => 0 | 3 => 3 | 4 => 4 | 9 => 9 | 20 => 20 | n => n, fun n => n⟩
theorem growL : Lays8.n4 Try.prog growRen := {
  mixed := by kernel_rfl
  f4 := ⟨"slices.Grow[[][]int,[]int]", by kernel_rfl, Try.func81.trans (congrArg some (by kernel_rfl))⟩
  t0 := Try.underlying0
  a0 := Try.isAgg0
  z0 := Try.sizeOf0
  v0 := Try.zeroValue0
  t3 := Try.underlying3
  a3 := Try.isAgg3
  z3 := Try.sizeOf3
  v3 := Try.zeroValue3
  t4 := Try.underlying4
  a4 := Try.isAgg4
  z4 := Try.sizeOf4
  v4 := Try.zeroValue4
  t9 := Try.underlying9
  a9 := Try.isAgg9
  z9 := Try.sizeOf9
  v9 := Try.zeroValue9
  t20 := Try.underlying20
  a20 := Try.isAgg20
  z20 := Try.sizeOf20
  v20 := Try.zeroValue20
  t22 := Try.underlying22
  a22 := Try.isAgg22
  z22 := Try.sizeOf22
  v22 := Try.zeroValue22 }
theorem grow_none (w : World) :
    Calls Try.prog 81 #[.slice none 0 0, .int .i64 0] w fun e w' => e = .returned (.slice none 0 0) ∧ w' = w := Any8.slices_Grow_room growL none 0 0 0 w (by omega) (by omega) (by omega) (by omega)
theorem grow_own {w w' : World} {X : Array Value} {cap : Nat} (hw : w' = w.drew.alloc (.cells X 23)) (hX : X.size = cap) (hcap : cap ≤ maxLen) : OwL false w' w.heap.size (.slice (some ⟨w.heap.size, 0, none⟩) 0 cap) [] := by
  subst hw
  exact ⟨[], ⟨rfl, .inr ⟨w.heap.size, cap, X, rfl, Nat.le_refl _, heap_alloc_new w.drew _, Nat.zero_le _, hcap, by omega, by simp⟩⟩, fun k x h => by simp at h⟩
/-- Room for words, or none for nothing. -/
theorem grow_any (n : Nat) (w : World) (hn : n ≤ 1000000) :
    Calls Try.prog 81 #[.slice none 0 0, .int .i64 n] w fun e w' => ∃ v, e = .returned v ∧ OwL false w' w.heap.size v [] ∧ Below w.heap.size w w' := by
  obtain ⟨i0, hi0, hz0, hz1, hz2⟩ := info_parts words_info
  rcases Nat.eq_zero_or_pos n with h | h
  · subst h
    refine (grow_none w).mono ?_
    rintro e w' ⟨rfl, rfl⟩
    exact ⟨_, rfl, OwL.nil_ _ _, Below.refl _ _⟩
  · refine (Any8.slices_Grow_grow growL i0 _ hi0 hz0 (by rw [hz1]; omega) none 0 0 n [] w (by omega) (by omega) (by rw [hz2]; omega) (by omega) (by simp) (fun _ => rfl) (fun a e => by cases e)).mono ?_
    rintro e w' ⟨rfl, rfl⟩
    have hcap : grownCap w (0 + n) 0 (growRen.t 25) ≤ maxLen := grownCap_le_maxLen _ _ _ _ (by unfold maxLen; omega)
    have hge : 0 + n ≤ grownCap w (0 + n) 0 (growRen.t 25) := grownCap_ge _ _ _ _
    exact ⟨_, rfl, grow_own rfl (by simp only [Nat.zero_add] at hge ⊢; simp [size_zeroCells, Value.cells]; omega) hcap, (below_drewN' (Below.refl _ w) 1).alloc (Nat.le_refl _) _⟩
theorem run_append_zero {P : Program} (w : World) (t ty e : TypeId) (i : TypeInfo) (hi : P.info? e = some i) (ht : P.underlying t = some (.slice e)) (q p : Option Addr) (k d c : Nat) (hk : k ≤ d) :
    (Builtin.append_ #[t, t] ty #[.slice q k d, .slice p 0 c]).run P w = .ok (.slice q k d) w := by
  cases p <;> cases q <;> simp [Builtin.append_, run_underlying ht, sizeOf, typeInfo, hi, Builtin.lenOf, Builtin.firstCells, loadCells, loadCellsFrom, storeCells, hk]
/-- The values of a list of words. -/
theorem RdS.vals {w : World} {b off : Nat} {ys : List (List Int)} (h : RdS w (some ⟨b, off, none⟩) ys) : ∃ vs : List Value, vs.length = ys.length ∧ (∀ (k : Nat) (u : Value), vs[k]? = some u → w.cell? ⟨b, off + k, none⟩ = some u ∧ u.oneCell' = true) ∧ ∀ (k : Nat) (x : List Int), ys[k]? = some x → ∃ A c, vs[k]? = some (Value.slice A x.length c) ∧ Rd w A x := by
  rcases Nat.eq_zero_or_pos ys.length with h0 | h0
  · refine ⟨[], h0.symm, fun k u hk => by simp at hk, fun k x hk => ?_⟩
    have := (List.getElem?_eq_some_iff.1 hk).1
    omega
  · obtain ⟨b', off', e, hl, hc⟩ := h h0
    injection e with e
    injection e with e1 e2 _
    subst e1 e2
    have hrow : ∀ (k : Nat) (x : List Int), ys[k]? = some x → k < ys.length ∧ M.row ys k = x := fun k x hk => by
      have h1 := (List.getElem?_eq_some_iff.1 hk).1
      refine ⟨h1, ?_⟩
      rw [M.row_at h1] at hk
      injection hk
    refine ⟨(List.range ys.length).map fun k => (w.cell? ⟨b, off + k, none⟩).getD undef, by simp, fun k u hk => ?_, fun k x hk => ?_⟩
    · rw [List.getElem?_map] at hk
      obtain ⟨j, hj, rfl⟩ := Option.map_eq_some_iff.1 hk
      obtain ⟨hj1, rfl⟩ := List.getElem?_eq_some_iff.1 hj
      have hkl : k < ys.length := by simpa using hj1
      obtain ⟨A, c, h2, _⟩ := hc k hkl
      simp only [List.getElem_range]
      rw [h2]
      exact ⟨rfl, rfl⟩
    · obtain ⟨hkl, e⟩ := hrow k x hk
      obtain ⟨A, c, h2, h3⟩ := hc k hkl
      rw [e] at h2 h3
      refine ⟨A, c, ?_, h3⟩
      rw [List.getElem?_map, List.getElem?_range hkl]
      simp [h2]
theorem wpList_append_ws (wr : World) {ops : Array Oper} {rest : List Oper} {o : Oper} {a : Act} {Q : Exit → Act → World → Prop} {B n c : Nat} {v : Value} {l ys : List (List Int)} {A : Option Addr} {w0 : World}
    (hown : OwL false wr B v l) (hr : RdS w0 A ys) (hn : ys.length = n) (hlen : l.length + n ≤ 1000000) (hb0 : Below B w0 wr) (hB0 : w0.heap.size = B) (hgd : o.guard = none) (s z : Operand)
    (ho : o.op = .call { callee := .builtin .append, args := #[s, z], argTypes := #[22, 22] }) (hs : a.eval s = v) (hz : a.eval z = .slice A n c)
    (h : ∀ v1 w1, OwL false w1 B v1 (l ++ ys) → Below B w0 w1 → wpList Try.prog ops Q rest (a.put o.dst v1) w1) :
    wpList Try.prog ops Q (o :: rest) a wr := by
  obtain ⟨i0, hi0, hI0, hI1, hI2⟩ := info_parts words_info
  have hBw : B ≤ wr.heap.size := by have := hb0.size; omega
  rcases Nat.eq_zero_or_pos n with h0 | h0
  · subst h0
    obtain rfl : ys = [] := List.length_eq_zero_iff.1 hn
    obtain ⟨q, d, rfl, hd, _⟩ := hown.form
    refine wpList_plain hgd fun K hK => ?_
    have hrun := run_append_zero (P := Try.prog) wr 22 o.type 23 i0 hi0 Try.underlying22 q A l.length d c hd
    unfold Oper.wp
    simp [execOp, ho, resolve, invoke, builtin, hs, hz, hrun, Result.andThen]
    exact hK _ _ (h _ _ (by rw [List.append_nil]; exact hown) hb0)
  · obtain ⟨b, off, rfl, hbw, _⟩ := hr (by omega)
    obtain ⟨vs, hvl, hv1, hv2⟩ := RdS.vals hr
    have hrow := hown.row
    obtain ⟨xs, h1, h2⟩ := hown
    have hxl : xs.length = l.length := by have := h1.1; omega
    refine wpList_append_own _ hgd s z 22 ho B 23 i0 (.slice none 0 0) 1 24 Try.underlying22 hi0 hI0 hI1 hI2 rfl (by decide) v l.length xs hs h1 ⟨b, off, none⟩ n c vs hz (by omega) ?_ ?_ ?_ ?_ hBw ?_
    · intro j u hj
      rw [Addr.add_lit, World.cell?_of_block (w := w0) (a := ⟨b, off + j, none⟩) (hb0.block b (by omega))]
      exact (hv1 j u hj).1
    · intro u hu
      obtain ⟨j, hj, e⟩ := List.getElem_of_mem hu
      exact (hv1 j u (by rw [List.getElem?_eq_getElem hj, e])).2
    · unfold maxLen; omega
    · omega
    · intro v1 w1 h3 hg _
      have hb1 : Below B w0 w1 := hb0.grown hg hBw (fun j hj => (hrow j hj).1)
      refine h v1 w1 ⟨_, by rw [List.length_append, hn]; exact h3, fun k y hk => ?_⟩ hb1
      rcases Nat.lt_or_ge k l.length with hj | hj
      · rw [List.getElem?_append_left hj] at hk
        obtain ⟨C, d, h5, h6, h7⟩ := h2 k y hk
        exact ⟨C, d, by rw [List.getElem?_append_left (by omega)]; exact h5, h6.kept hg hrow, h7⟩
      · rw [List.getElem?_append_right hj] at hk
        obtain ⟨C, d, h5, h6⟩ := hv2 _ y hk
        refine ⟨C, d, by rw [List.getElem?_append_right (by omega), hxl]; exact h5, RdK.old h6 hb1 (by omega) (by have := hb1.size; omega), fun h => by cases h⟩
set_option maxRecDepth 100000 in
set_option maxHeartbeats 1000000 in
theorem sconcat_any (L n1 n2 c1 c2 : Nat) (A1 A2 : Option Addr) (ps qs : List (List Int)) (w : World) (hL1 : w.cell? ⟨L, 0, none⟩ = some (.slice A1 n1 c1)) (hL2 : w.cell? ⟨L, 1, none⟩ = some (.slice A2 n2 c2))
    (hL : L < w.heap.size) (hp : RdS w A1 ps) (hq : RdS w A2 qs) (e1 : ps.length = n1) (e2 : qs.length = n2) (h1 : n1 ≤ 4096) (h2 : n2 ≤ 4096) :
    Calls Try.prog 66 #[.slice (some ⟨L, 0, none⟩) 2 2] w fun e w' => ∃ A c, e = .returned (.slice A (n1 + n2) c) ∧ RdS w' A (ps ++ qs) ∧ Below w.heap.size w w' := by
  have E1 := Lib.hid e1
  have E2 := Lib.hid e2
  have HP := Lib.hid hp
  have HQ := Lib.hid hq
  clear e1 e2 hp hq
  go_enter Try.func66, Try.ntmps66
  go_wp2
  refine wp_loop_rounds 3 ?_
  rw [rounds_succ]
  go_wp2
  rw [rounds_succ]
  go_wp2
  rw [rounds_succ]
  go_wp2_with fail
  have G := grow_any (n1 + n2) w (by omega)
  rw [Int.natCast_add] at G
  refine G.mono ?_
  rintro e w1 ⟨v1, rfl, hown, hb1⟩
  have hL1' : w1.cell? ⟨L, 0, none⟩ = some (.slice A1 n1 c1) := (hb1.cell (p := ⟨L, 0, none⟩) hL).trans hL1
  clear G hL1
  go_wp2
  refine wp_loop_rounds 3 ?_
  rw [rounds_succ]
  go_wp2_with (at_builtin; refine wpList_append_ws w1 hown HP.out E1.out (by simp; omega) hb1 rfl rfl _ _ rfl rfl rfl ?_; intro v2 w2 hown2 hb2)
  have hL2' : w2.cell? ⟨L, 1, none⟩ = some (.slice A2 n2 c2) := (hb2.cell (p := ⟨L, 1, none⟩) hL).trans hL2
  clear hL1' hL2 hown hb1
  go_wp2
  rw [rounds_succ]
  go_wp2_with (at_builtin; refine wpList_append_ws w2 hown2 HQ.out E2.out (by simp; have := E1.out; omega) hb2 rfl rfl _ _ rfl rfl rfl ?_; intro v3 w3 hown3 hb3)
  rw [List.nil_append] at hown3
  obtain ⟨A3, c3, rfl, hc3, _⟩ := hown3.form
  have hlen : (ps ++ qs).length = n1 + n2 := by rw [List.length_append, E1.out, E2.out]
  have HX := Lib.hid hown3.rds
  rw [hlen]
  have HB := Lib.hid hb3
  clear hown3 hown2 hb2 hb3 hlen hc3
  go_wp2
  rw [rounds_succ]
  go_wp2
  go_ret
  exact ⟨_, _, rfl, HX.out, HB.out⟩
set_option maxRecDepth 100000 in
set_option maxHeartbeats 2000000 in
theorem union_any (L K : Option Addr) (c d N N2 : Nat) (rows rows2 S : List (List Int)) (n : Int) (w : World) (h : RdS w L rows) (hN : rows.length = N) (hm : N ≤ 9223372036854775807) (h2 : RdS w K rows2) (hN2 : rows2.length = N2) (hm2 : N2 ≤ 9223372036854775807) (hS : M.asc S) (hmem : ∀ x, x ∈ S ↔ x ∈ rows ∨ x ∈ rows2) (R : Int) (hR : gE (chE2 rows rows2 n) S n = R) :
    Calls Try.prog 31 #[.slice L N c, .slice K N2 d, .int .i64 n] w (Lst w (okL R S) R) := by
  have C1 := Lib.hid (tboth_any L K c d N N2 rows rows2 n w h hN hm h2 hN2 hm2)
  by_cases hz : chE2 rows rows2 n = 0
  · have hz1 : M.chE rows n = 0 := by
      unfold chE2 at hz
      by_cases e : M.chE rows n = 0
      · exact e
      · rw [if_pos e] at hz; exact absurd hz e
    have hz2 : M.chE rows2 n = 0 := by
      unfold chE2 at hz
      rw [if_neg (by omega)] at hz
      exact hz
    have hby := ch_by hz1
    have hby2 := ch_by hz2
    rw [hz] at hR C1
    have HR := Lib.hid (hR ▸ gE_ok (S := S) (n := n))
    have HH := Lib.hid (And.intro h h2)
    have HN := Lib.hid (And.intro hN hN2)
    have HM := Lib.hid (And.intro hS (fun x => (show x ∈ S ↔ (inF (rows ++ rows2) x).isSome = true by rw [inF_some, hmem, List.mem_append])))
    have HBY : Hid (∀ x ∈ rows ++ rows2, M.By x ∧ x.length ≤ 1000) := fun x hx => by
      rcases List.mem_append.1 hx with e | e
      · exact hby.2 x e
      · exact hby2.2 x e
    have hN4 : N ≤ 4096 := by omega
    have hN24 : N2 ≤ 4096 := by omega
    clear h h2 hN hN2 hz hz1 hz2 hby hby2 hS hmem hR
    go_enter Try.func31, Try.ntmps31
    go_wp2_with fail
    refine C1.out.mono ?_
    rintro e w1 ⟨rfl, hb1⟩
    go_wp2_with fail
    have BA := (Below.refl w1.heap.size w1).alloc (Nat.le_refl _) (.cells #[.slice L N c, .slice K N2 d] 22)
    have BW := below_next hb1 BA
    have hcl := heap_alloc_new w1 (.cells #[.slice L N c, .slice K N2 d] 22)
    refine (sconcat_any w1.heap.size N N2 c d L K rows rows2 _ (by rw [cell_of_row _ _ _ _ _ _ hcl]; rfl) (by rw [cell_of_row _ _ _ _ _ _ hcl]; rfl) (by simp) (HH.out.1.below BW) (HH.out.2.below BW) HN.out.1 HN.out.2 hN4 hN24).mono ?_
    rintro e w2 ⟨A, q, rfl, hx, hb2⟩
    have B2 := below_next BW hb2
    go_wp2_with fail
    have CK := keys_any A q (N + N2) (rows ++ rows2) w2 hx (by rw [List.length_append, HN.out.1, HN.out.2]) (by omega) HBY.out
    refine CK.mono ?_
    rintro e w3 ⟨b, hb, rfl, hMp, hb3⟩
    have B3 := Lib.hid (below_next B2 hb3)
    have HMp := Lib.hid hMp
    clear hb1 hb2 hMp BA BW hcl hx B2 hb3 CK hb
    go_wp2_with fail
    refine (gather_any b (N + N2) (inF (rows ++ rows2)) S n R w3 HMp.out (by omega) HM.out.1 HM.out.2 HR.out).mono ?_
    rintro e w4 ⟨A, q, rfl, hq, hx, hb4⟩
    have HL := Lib.hid (Lst.after (R := R) B3.out hq hx hb4)
    clear hq hx hb4 B3
    go_wp2
    go_ret2
    exact HL.out
  · rw [gE_err hz] at hR
    rw [hR] at C1 hz
    have hz1 : (R != 0) = true := by simpa using hz
    rw [okL_err hz]
    clear hR h h2 hN hN2 hS hmem hz
    go_enter Try.func31, Try.ntmps31
    go_wp2_with fail
    refine C1.out.mono ?_
    rintro e w1 ⟨rfl, hb1⟩
    go_wp2
    go_ret2
    exact Lst.no hb1
end Go.Proofs.Ytjodhihcckcefaa
