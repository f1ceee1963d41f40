/-
  Contracts: the reference: Exact again (each word lies in a block of words), Upto. No statement is proved here.
-/
import Derived.Test.YtjodhihcckcefaaV7
import Derived.Test.YtjodhihcckcefaaTlM
namespace Go.Proofs.Ytjodhihcckcefaa
open Go.RowKit Go.Maps

/-- A list of words that a call builds by appending; each word in a block of ints. -/
def OwT (w : World) (base : Nat) (v : Value) (l : List (List Int)) : Prop :=
  ∃ xs : List Value, w.ownsRow base 23 1 v l.length xs ∧ ∀ (k : Nat) (x : List Int), l[k]? = some x → ∃ A c, xs[k]? = some (.slice A x.length c) ∧ RdK w 0 A x
theorem RdK.up {w : World} {base : Nat} {A : Option Addr} {x : List Int} (h : RdK w 0 A x) : RdK w base A x := fun hp => by
  obtain ⟨b, off, e, h1, h2, h3⟩ := h hp
  rcases h2 with h2 | h2
  · omega
  · exact ⟨b, off, e, h1, Or.inr h2, h3⟩
section
variable {w w' : World} {base : Nat} {v : Value} {l : List (List Int)}
theorem OwT.nil_ (w : World) (base : Nat) : OwT w base (.slice none 0 0) [] := ⟨[], World.ownsRow_nil _ _ _ _, fun k x h => by simp at h⟩
theorem OwT.owl (h : OwT w base v l) : OwL false w base v l := by
  obtain ⟨xs, h1, h2⟩ := h
  refine ⟨xs, h1, fun k x hk => ?_⟩
  obtain ⟨A, c, h3, h4⟩ := h2 k x hk
  exact ⟨A, c, h3, h4.up, fun e => by cases e⟩
theorem OwT.below (h : OwT w base v l) (hb : Below w.heap.size w w') : OwT w' base v l := by
  obtain ⟨xs, h1, h2⟩ := h
  refine ⟨xs, h1.kept (row := none) ⟨hb.os, hb.tape, hb.output, hb.size, fun b hl _ => hb.block b hl⟩ ?_, fun k x hk => ?_⟩
  · cases hv : v.ownBlock with
    | none => exact Or.inl rfl
    | some r => exact Or.inr (by simp)
  · obtain ⟨A, c, h3, h4⟩ := h2 k x hk
    exact ⟨A, c, h3, h4.below hb⟩
end
set_option maxRecDepth 100000 in
/-- append(l, w): at the operation, the new word lying in a block of its own. -/
theorem wpList_append_wT (wr : World) {ops : Array Oper} {rest : List Oper} {o : Oper} {a : Act} {Q : Exit → Act → World → Prop} {B n c : Nat} {v : Value} {l : List (List Int)} {A : Option Addr} {x : List Int} {w0 : World}
    (hown : OwT wr B v l) (hlen : l.length ≤ 1000000) (hx : RdK wr 0 A x) (hn : x.length = n) (hb0 : Below B w0 wr) (hB : B ≤ wr.heap.size) (hgd : o.guard = none) (s z : Operand)
    (ho : o.op = .call { callee := .builtin .append, args := #[s, z], argTypes := #[22, 22] }) (hs : a.eval s = v) (hz : a.eval z = .slice (some ⟨wr.heap.size, 0, none⟩) 1 1)
    (h : ∀ v1 w1, OwT w1 B v1 (l ++ [x]) → Below B w0 w1 → wpList Try.prog ops Q rest (a.put o.dst v1) w1) :
    wpList Try.prog ops Q (o :: rest) a (wr.alloc (.cells #[.slice A n c] 23)) := by
  obtain ⟨i0, hi0, hI0, hI1, hI2⟩ := info_parts words_info
  have hrow := hown.owl.row
  have hownA := hown.below ((Below.refl wr.heap.size wr).alloc (Nat.le_refl _) (.cells #[.slice A n c] 23))
  obtain ⟨xs, h1, h2⟩ := hownA
  have hxA := hx.below ((Below.refl wr.heap.size wr).alloc (Nat.le_refl _) (.cells #[.slice A n c] 23))
  have hbA := hb0.alloc hB (.cells #[.slice A n c] 23)
  have hxl : xs.length = l.length := by have := h1.1; omega
  refine wpList_append_own _ hgd s z 22 ho B 23 i0 (.slice none 0 0) 1 24 Try.underlying22 hi0 hI0 hI1 hI2 rfl (by decide) v l.length xs hs h1 ⟨wr.heap.size, 0, none⟩ 1 1 [.slice A n c] hz rfl ?_ ?_ ?_ ?_ ?_ ?_
  · intro j u hj
    rw [Addr.add_lit, World.cell?_alloc_at _ _ _ _ rfl]
    match j, hj with
    | 0, hj => simpa using hj
  · intro u hu
    simp at hu
    rw [hu]; rfl
  · unfold maxLen; omega
  · omega
  · simp; omega
  · intro v1 w1 h3 hg _
    have hrowA : ∀ r, v.ownBlock = some r → 0 ≤ r ∧ ∃ cs, (wr.alloc (.cells #[.slice A n c] 23)).heap[r]? = some (.cells cs 23 (0, 0)) := fun r hr => by
      obtain ⟨_, cs, h5⟩ := hrow r hr
      exact ⟨Nat.zero_le _, cs, (Below.heap_alloc _ _ r (heap_ltT h5)).trans h5⟩
    refine h v1 w1 ⟨_, by rw [List.length_append]; exact h3, fun k y hk => ?_⟩ (hbA.grown hg (by simp; omega) fun j hj => (hrow j hj).1)
    rcases Nat.lt_trichotomy k l.length with hj | hj | hj
    · rw [List.getElem?_append_left hj] at hk
      obtain ⟨C, d, h5, h6⟩ := h2 k y hk
      exact ⟨C, d, by rw [List.getElem?_append_left (by omega)]; exact h5, h6.kept hg hrowA⟩
    · subst hj
      rw [List.getElem?_append_right (Nat.le_refl _)] at hk
      simp at hk
      subst hk
      refine ⟨A, c, ?_, hxA.kept hg hrowA⟩
      rw [List.getElem?_append_right (by omega), hxl]
      simp [hn]
    · rw [List.getElem?_eq_none (by simp; omega)] at hk
      cases hk
set_option maxRecDepth 100000 in
/-- append(l, m...): the other list, too, of the call's own. -/
theorem wpList_append_wsT (wr : World) {ops : Array Oper} {rest : List Oper} {o : Oper} {a : Act} {Q : Exit → Act → World → Prop} {B B1 n c : Nat} {v : Value} {l ys : List (List Int)} {A : Option Addr} {w0 : World}
    (hown : OwT wr B v l) (hr : OwT wr B1 (.slice A n c) ys) (hlen : l.length + ys.length ≤ 1000000) (hb0 : Below B w0 wr) (hB : B ≤ wr.heap.size) (hgd : o.guard = none) (s z : Operand)
    (ho : o.op = .call { callee := .builtin .append, args := #[s, z], argTypes := #[22, 22] }) (hs : a.eval s = v) (hz : a.eval z = .slice A n c)
    (h : ∀ v1 w1, OwT w1 B v1 (l ++ ys) → Below B w0 w1 → wpList Try.prog ops Q rest (a.put o.dst v1) w1) :
    wpList Try.prog ops Q (o :: rest) a wr := by
  obtain ⟨i0, hi0, hI0, hI1, hI2⟩ := info_parts words_info
  have hn : ys.length = n := by
    obtain ⟨_, _, e, _⟩ := hr.owl.form
    injection e with _ e _
    exact e.symm
  rcases Nat.eq_zero_or_pos n with h0 | h0
  · subst h0
    obtain rfl : ys = [] := List.length_eq_zero_iff.1 hn
    obtain ⟨q, d, rfl, hd, _⟩ := hown.owl.form
    refine wpList_plain hgd fun K hK => ?_
    have hrun := run_append_zero (P := Try.prog) wr 22 o.type 23 i0 hi0 Try.underlying22 q A l.length d c hd
    unfold Oper.wp
    simp [execOp, ho, resolve, invoke, builtin, hs, hz, hrun, Result.andThen]
    exact hK _ _ (h _ _ (by rw [List.append_nil]; exact hown) hb0)
  · obtain ⟨ys2, k1, k2⟩ := hr
    have hyl : ys2.length = ys.length := by have := k1.1; omega
    rcases k1.2 with ⟨e, e0⟩ | ⟨g, cap, cur, e, k3, k4, _⟩
    · omega
    · injection e with e _ _
      subst e
      have hrow := hown.owl.row
      obtain ⟨xs, h1, h2⟩ := hown
      have hxl : xs.length = l.length := by have := h1.1; omega
      refine wpList_append_own _ hgd s z 22 ho B 23 i0 (.slice none 0 0) 1 24 Try.underlying22 hi0 hI0 hI1 hI2 rfl (by decide) v l.length xs hs h1 ⟨g, 0, none⟩ n c ys2 hz (by omega) ?_ ?_ ?_ ?_ hB ?_
      · intro j u hj
        exact k1.cells (g := g) rfl j u hj
      · intro u hu
        obtain ⟨j, hj, rfl⟩ := List.getElem_of_mem hu
        obtain ⟨C, d, h5, _⟩ := k2 j _ (List.getElem?_eq_getElem (by omega))
        rw [List.getElem?_eq_getElem hj] at h5
        injection h5 with h5
        rw [h5]; rfl
      · unfold maxLen; omega
      · omega
      · intro v1 w1 h3 hg _
        have hb1 : Below B w0 w1 := hb0.grown hg hB (fun j hj => (hrow j hj).1)
        have hrowA : ∀ r, v.ownBlock = some r → 0 ≤ r ∧ ∃ cs, wr.heap[r]? = some (.cells cs 23 (0, 0)) := fun r hr => by
          obtain ⟨_, cs, h5⟩ := hrow r hr
          exact ⟨Nat.zero_le _, cs, h5⟩
        refine h v1 w1 ⟨_, by rw [List.length_append, hn]; exact h3, fun k y hk => ?_⟩ hb1
        rcases Nat.lt_or_ge k l.length with hj | hj
        · rw [List.getElem?_append_left hj] at hk
          obtain ⟨C, d, h5, h6⟩ := h2 k y hk
          exact ⟨C, d, by rw [List.getElem?_append_left (by omega)]; exact h5, h6.kept hg hrowA⟩
        · rw [List.getElem?_append_right hj] at hk
          obtain ⟨C, d, h5, h6⟩ := k2 _ y hk
          exact ⟨C, d, by rw [List.getElem?_append_right (by omega), hxl]; exact h5, h6.kept hg hrowA⟩
set_option maxRecDepth 100000 in
set_option maxHeartbeats 2000000 in
theorem vexact2_any (n k : Nat) (w : World) (hn : n ≤ 16) (hk1 : k ≤ 1000) (hsz : ∀ j, j ≤ k → (allW n j).length ≤ 1000000) :
    Calls Try.prog 40 #[.int .i64 n, .int .i64 k] w fun e w' => ∃ v B, e = .returned v ∧ w.heap.size ≤ B ∧ OwT w' B v (allW n k) ∧ Below w.heap.size w w' := by
  have HZ := Lib.hid hsz
  have b1 := Lib.hid (((Below.refl w.heap.size w).alloc (Nat.le_refl _) (.cells #[] 3)).alloc (by simp) (.cells #[.slice (some ⟨w.heap.size, 0, none⟩) 0 0] 23))
  have s1 : Hid (OwT ((w.alloc (.cells #[] 3)).alloc (.cells #[.slice (some ⟨w.heap.size, 0, none⟩) 0 0] 23)) w.heap.size (.slice (some ⟨w.heap.size + 1, 0, none⟩) 1 1) (allW n 0)) := by
    refine ⟨[.slice (some ⟨w.heap.size, 0, none⟩) 0 0], ?_, fun k x hk => ?_⟩
    · have := World.ownsRow_lit (base := w.heap.size) (e := 23) (size := 1) (w.alloc (.cells #[] 3)) #[.slice (some ⟨w.heap.size, 0, none⟩) 0 0] 1 (by simp) (by unfold maxLen; omega) rfl
      rw [World.size_alloc] at this
      exact this
    · have hk2 : k < 1 := (List.getElem?_eq_some_iff.1 hk).1
      obtain rfl : k = 0 := by omega
      have e : x = [] := by
        have : [([] : List Int)][0]? = some x := hk
        simpa using this.symm
      subst e
      exact ⟨_, 0, rfl, RdK.nil_⟩
  have hz1 : w.heap.size ≤ ((w.alloc (.cells #[] 3)).alloc (.cells #[.slice (some ⟨w.heap.size, 0, none⟩) 0 0] 23)).heap.size := by simp; omega
  clear hsz
  go_enter Try.func40, Try.ntmps40
  go_wp2
  go_loopw [5, 6] (fun v z wr => ∃ j B1 : Nat, j ≤ k ∧ z = .int .i64 j ∧ w.heap.size ≤ B1 ∧ B1 ≤ wr.heap.size ∧ Hid (OwT wr B1 v (allW n j)) ∧ Hid (Below w.heap.size w wr)) (fun _ z _ => k - (intOf z).toNat)
  case atStart => exact ⟨0, w.heap.size, Nat.zero_le _, rfl, Nat.le_refl _, hz1, s1.out, b1.out⟩
  case round =>
    clear s1 b1 hz1
    obtain ⟨j, B1, hj, rfl, hB1, hB1z, hO, hb⟩ := hrel
    by_cases hlt : j < k
    · obtain ⟨N, hN⟩ : ∃ N, (allW n j).length = N := ⟨_, rfl⟩
      obtain ⟨A, c, hv, hc, _⟩ := hO.out.owl.form
      rw [hN] at hv
      subst hv
      have hN6 : N ≤ 1000000 := by rw [← hN]; exact HZ.out j (by omega)
      have HN := Lib.hid hN
      have HRD := Lib.hid hO.out.owl.rds
      have HM := Lib.hid (fun y => (allW_mem (n := n) (k := j) (y := y)).1)
      have hj1 : j ≤ 1000 := by omega
      have HS6 : Hid (∀ i s, i < N → s ≤ n → (allS n j i s).length ≤ 1000000) := fun i s hi hs => by
        have h1 : (allS n j (i + 1) 0).length ≤ (allW n (j + 1)).length := by
          have e : allW n (j + 1) = ((allW n j).take (i + 1) ++ (allW n j).drop (i + 1)).flatMap (fun x => (List.range n).map fun s => x ++ [((s : Nat) : Int)]) := by rw [List.take_append_drop]; rfl
          rw [e, List.flatMap_append, List.length_append]
          simp [allS]
        have h2 := HZ.out (j + 1) (by omega)
        rw [← allS_next (by omega)] at h1
        have h3 : (allS n j i s).length = (allS n j i 0).length + s := by simp [allS]
        have h4 : (allS n j i n).length = (allS n j i 0).length + n := by simp [allS]
        omega
      clear hN hc hO
      obtain ⟨W, rfl⟩ : ∃ W : World, W = wr := ⟨_, rfl⟩
      have hBW := hb.out
      have HBW := Lib.hid hBW
      clear hb hBW
      go_wp2
      go_loopw [7, 8] (fun v z wq => ∃ i : Nat, i ≤ N ∧ z = .int .i64 i ∧ Hid (OwT wq W.heap.size v (allS n j i 0)) ∧ Hid (Below W.heap.size W wq)) (fun _ z _ => N - (intOf z).toNat)
      case atStart => exact ⟨0, Nat.zero_le _, rfl, (by rw [allS_zero]; exact OwT.nil_ _ _), Below.refl _ _⟩
      case round =>
        obtain ⟨i, hi, rfl, hO, hb⟩ := hrel
        by_cases hlt2 : i < N
        · obtain ⟨bu, offu, Au, cu, mu, rfl, hbu, hcw, hru, hmu⟩ := HRD.out.at_ (k := i) (by rw [HN.out]; exact hlt2)
          have hml := (HM.out _ (M.row_mem (l := allW n j) (k := i) (by rw [HN.out]; exact hlt2))).2
          have hmu2 : mu ≤ 1000 := by have := hmu.out; omega
          have HST := Lib.hid (allS_step n j i)
          have HNX := Lib.hid (allS_next (n := n) (k := j) (i := i) (by rw [HN.out]; exact hlt2))
          obtain ⟨x, hx⟩ : ∃ x, M.row (allW n j) i = x := ⟨_, rfl⟩
          rw [hx] at hru hmu HST
          have HX := Lib.hid (And.intro hru (And.intro hcw hbu))
          clear hru hcw hbu hx hml
          go_wp2
          go_loopw [7, 9] (fun v z wq => ∃ s : Nat, s ≤ n ∧ z = .int .i64 s ∧ Hid (OwT wq W.heap.size v (allS n j i s)) ∧ Hid (Below W.heap.size W wq)) (fun _ z _ => n - (intOf z).toNat)
          case atStart => exact ⟨0, Nat.zero_le _, rfl, hO.out, hb.out⟩
          case round =>
            clear hO hb
            obtain ⟨s, hs, rfl, hO, hb⟩ := hrel
            by_cases hlt3 : s < n
            · have hsn : (s : Int) < n := by omega
              obtain ⟨X, hX⟩ : ∃ X : World, X = wr := ⟨_, rfl⟩
              subst hX
              have hruq := HX.out.1.below hb.out
              have hcq := ((bcell hb.out).1 bu (offu + i) HX.out.2.2).trans HX.out.2.1
              have hbA := (Below.refl X.heap.size X).alloc (Nat.le_refl _) (.cells #[] 3)
              have hcq2 : (X.alloc (.cells #[] 3)).cell? ⟨bu, offu + i, none⟩ = some (.slice Au mu cu) := ((bcell hbA).1 bu (offu + i) (by have := hb.out.size; have := HX.out.2.2; omega)).trans hcq
              go_wp2_with (first
                | (refine wpList_append_xo X hruq hmu.out (by omega) rfl _ _ rfl rfl rfl ?_
                   intro v1 w1 ho1 hb1)
                | (refine wpList_append_s (B2 := 0) w1 ho1 hmu.out (by omega) hb1 hb1.size rfl _ _ rfl rfl rfl ?_
                   intro A1 c1 w2 hK hb2
                   have hO2 := hO.out.below hb2
                   have hbW2 := below_next hb.out hb2)
                | (refine wpList_append_wT w2 hO2 (HS6.out i s hlt2 hs) hK (by simp; exact hmu.out) hbW2 hbW2.size rfl _ _ rfl rfl rfl ?_
                   intro v3 w3 hO3 hb3)
                | fail)
              rw [← HST.out s] at hO3
              have HO3 := Lib.hid hO3
              have HB3 := Lib.hid hb3
              clear hO3 hb3 hO2 hbW2 hK hb2 ho1 hb1 hcq2 hbA hcq hruq hO hb
              go_roundw
              case rel => exact ⟨s + 1, by omega, by go_num, HO3, HB3⟩
              case measure => simp [intOf]; omega
            · obtain rfl : s = n := by omega
              have hO2 := hO.out
              rw [HNX.out] at hO2
              have HO2 := Lib.hid hO2
              clear hO hO2
              go_wp2
              go_roundw
              case rel => exact ⟨i + 1, by omega, by go_num, HO2, hb⟩
              case measure => simp [intOf]; omega
        · obtain rfl : i = N := by omega
          have hO2 := hO.out
          rw [← HN.out, allS_all] at hO2
          have HO2 := Lib.hid hO2
          have hzW := HBW.out.size
          clear hO hO2
          go_wp2
          go_roundw
          case rel => exact ⟨j + 1, W.heap.size, by omega, by go_num, hzW, hb.out.size, HO2, below_next HBW.out hb.out⟩
          case measure => simp [intOf]; omega
    · obtain rfl : j = k := by omega
      go_wp2
      go_ret
      exact ⟨_, B1, rfl, hB1, hO.out, hb.out⟩

/-- All words of less than so many symbols. -/
def ltW (n j : Nat) : List (List Int) := (List.range j).flatMap (allW n)
theorem ltW_succ (n j : Nat) : ltW n (j + 1) = ltW n j ++ allW n j := by
  unfold ltW
  rw [List.range_succ, List.flatMap_append]
  simp
theorem ltW_le (n : Nat) {i j : Nat} (h : i ≤ j) : (ltW n i).length ≤ (ltW n j).length := by
  induction j with
  | zero => obtain rfl : i = 0 := by omega
            exact Nat.le_refl _
  | succ j ih =>
    rcases Nat.lt_or_ge j i with h1 | h1
    · obtain rfl : i = j + 1 := by omega
      exact Nat.le_refl _
    · have := ih h1
      rw [ltW_succ, List.length_append]
      omega
set_option maxRecDepth 100000 in
set_option maxHeartbeats 2000000 in
theorem vupto_any (n k : Nat) (w : World) (hn : n ≤ 16) (hk1 : k ≤ 1000) (hsz : (uptoW n k).length ≤ 1000000) :
    Calls Try.prog 39 #[.int .i64 n, .int .i64 k] w fun e w' => ∃ v, e = .returned v ∧ OwT w' w.heap.size v (uptoW n k) ∧ Below w.heap.size w w' := by
  have HS : Hid (∀ j, j ≤ k → (ltW n (j + 1)).length ≤ 1000000) := fun j hj => Nat.le_trans (ltW_le n (i := j + 1) (j := k + 1) (by omega)) hsz
  have HE : Hid (∀ j, j ≤ k → (allW n j).length ≤ 1000000) := fun j hj => by
    have h1 := HS.out j hj
    rw [ltW_succ, List.length_append] at h1
    omega
  have HU : Hid (ltW n (k + 1) = uptoW n k) := rfl
  have s1 := Lib.hid (OwT.nil_ w w.heap.size)
  clear hsz
  go_enter Try.func39, Try.ntmps39
  go_wp2
  go_loopw [5, 6] (fun v z wr => ∃ j : Nat, j ≤ k + 1 ∧ z = .int .i64 j ∧ Hid (OwT wr w.heap.size v (ltW n j)) ∧ Hid (Below w.heap.size w wr)) (fun _ z _ => k + 1 - (intOf z).toNat)
  case atStart => exact ⟨0, Nat.zero_le _, rfl, s1.out, Below.refl _ _⟩
  case round =>
    clear s1
    obtain ⟨j, hj, rfl, hO, hb⟩ := hrel
    by_cases hlt : j ≤ k
    · have d1 : (j : Int) ≤ k := by omega
      have CE := Lib.hid (vexact2_any n j wr hn (by omega) (fun i hi => HE.out i (by omega)))
      have HSJ := Lib.hid (HS.out j hlt)
      have HST := Lib.hid (ltW_succ n j)
      go_wp2_with fail
      refine CE.out.mono ?_
      rintro e w1 ⟨v1, B1, rfl, hB1, hO1, hb1⟩
      obtain ⟨A, c, rfl, _, _⟩ := hO1.owl.form
      have hO2 := hO.out.below hb1
      have hb2 := below_next hb.out hb1
      have hlen : (ltW n j).length + (allW n j).length ≤ 1000000 := by
        have := HSJ.out
        rw [HST.out, List.length_append] at this
        exact this
      obtain ⟨q, hq⟩ : ∃ q, (allW n j).length = q := ⟨_, rfl⟩
      rw [hq] at hO1
      go_wp2_with (first
        | (refine wpList_append_wsT w1 hO2 hO1 hlen hb2 hb2.size rfl _ _ rfl rfl rfl ?_
           intro v3 w3 hO3 hb3)
        | fail)
      rw [← HST.out] at hO3
      have HO3 := Lib.hid hO3
      have HB3 := Lib.hid hb3
      clear hO3 hb3 hO2 hb2 hO1 hb1 hO hb
      go_roundw
      case rel => exact ⟨j + 1, by omega, by go_num, HO3, HB3⟩
      case measure => simp [intOf]; omega
    · obtain rfl : j = k + 1 := by omega
      have d1 : ¬ ((k : Int) + 1) ≤ k := by omega
      have hO2 := hO.out
      rw [HU.out] at hO2
      have HO2 := Lib.hid hO2
      clear hO hO2
      go_wp2
      go_ret
      exact ⟨_, rfl, HO2.out, hb.out⟩
end Go.Proofs.Ytjodhihcckcefaa
