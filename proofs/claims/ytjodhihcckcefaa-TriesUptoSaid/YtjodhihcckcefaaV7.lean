/-
  Contracts: the reference: Exact. No statement is proved here.
-/
import Derived.Test.YtjodhihcckcefaaV6
import Derived.Test.YtjodhihcckcefaaU14
import Derived.Laws.OwnMore
namespace Go.Proofs.Ytjodhihcckcefaa
open Go.RowKit Go.Maps

/-- All words of k symbols, in their order. -/
def allW (n : Nat) : Nat → List (List Int)
  | 0 => [[]]
  | k + 1 => (allW n k).flatMap fun x => (List.range n).map fun s => x ++ [((s : Nat) : Int)]
/-- The same, in the middle: with the first i words all, with the next one the first s symbols. -/
def allS (n k i s : Nat) : List (List Int) := ((allW n k).take i).flatMap (fun x => (List.range n).map fun s => x ++ [((s : Nat) : Int)]) ++ (List.range s).map fun s => M.row (allW n k) i ++ [((s : Nat) : Int)]
theorem allS_zero (n k : Nat) : allS n k 0 0 = [] := by simp [allS]
theorem allS_step (n k i s : Nat) : allS n k i (s + 1) = allS n k i s ++ [M.row (allW n k) i ++ [((s : Nat) : Int)]] := by
  unfold allS
  rw [List.range_succ, List.map_append, List.append_assoc]
  rfl
theorem allS_next {n k i : Nat} (h : i < (allW n k).length) : allS n k i n = allS n k (i + 1) 0 := by
  unfold allS
  rw [take_row h, List.flatMap_append]
  simp
theorem allS_all (n k : Nat) : allS n k (allW n k).length 0 = allW n (k + 1) := by
  unfold allS
  simp [allW]
theorem allW_mem {n : Nat} : ∀ {k : Nat} {y : List Int}, y ∈ allW n k ↔ M.Val n y ∧ y.length = k
  | 0, y => by
    show y ∈ [[]] ↔ _
    rw [List.mem_singleton]
    constructor
    · rintro rfl; exact ⟨fun z hz => (by cases hz), rfl⟩
    · rintro ⟨_, h⟩; exact List.length_eq_zero_iff.1 h
  | k + 1, y => by
    show y ∈ (allW n k).flatMap _ ↔ _
    rw [List.mem_flatMap]
    constructor
    · rintro ⟨x, hx, hy⟩
      obtain ⟨s, hs, rfl⟩ := List.mem_map.1 hy
      obtain ⟨h1, h2⟩ := allW_mem.1 hx
      refine ⟨fun z hz => ?_, by simp [h2]⟩
      rcases List.mem_append.1 hz with h | h
      · exact h1 z h
      · rw [List.mem_singleton.1 h]
        have := List.mem_range.1 hs
        omega
    · rintro ⟨h1, h2⟩
      have hne : y ≠ [] := fun e => by rw [e] at h2; simp at h2
      have e := List.dropLast_concat_getLast hne
      have hz := h1 _ (List.getLast_mem hne)
      refine ⟨y.dropLast, allW_mem.2 ⟨fun z hz => h1 z ((List.dropLast_prefix y).subset hz), by simp [h2]⟩, List.mem_map.2 ⟨(y.getLast hne).toNat, List.mem_range.2 (by omega), ?_⟩⟩
      rw [show (((y.getLast hne).toNat : Nat) : Int) = y.getLast hne by omega]
      exact e
set_option maxRecDepth 100000 in
/-- append([]int{}, x...), as a row of the call's own. -/
theorem wpList_append_xo (wr : World) {ops : Array Oper} {rest : List Oper} {o : Oper} {a : Act} {Q : Exit → Act → World → Prop} {q d : Nat} {x : List Int} {X : Option Addr}
    (hx : Rd wr X x) (hq : x.length = q) (hlen : q ≤ 1000000) (hgd : o.guard = none) (s z : Operand)
    (ho : o.op = .call { callee := .builtin .append, args := #[s, z], argTypes := #[23, 23] }) (hs : a.eval s = .slice (some ⟨wr.heap.size, 0, none⟩) 0 0) (hz : a.eval z = .slice X q d)
    (h : ∀ v1 w1, w1.ownsRow wr.heap.size 3 1 v1 q (ints x) → Below wr.heap.size wr w1 → wpList Try.prog ops Q rest (a.put o.dst v1) w1) :
    wpList Try.prog ops Q (o :: rest) a (wr.alloc (.cells #[] 3)) := by
  obtain ⟨i0, hi0, hI0, hI1, hI2⟩ := info_parts int_info
  have hbA := (Below.refl wr.heap.size wr).alloc (Nat.le_refl _) (.cells #[] 3)
  have hown := World.ownsRow_made (base := wr.heap.size) (e := 3) (size := 1) wr #[] 0 (Nat.le_refl _) (by unfold maxLen; omega) (by simp)
  rcases Nat.eq_zero_or_pos q with h0 | h0
  · subst h0
    obtain rfl : x = [] := List.length_eq_zero_iff.1 hq
    refine wpList_plain hgd fun K hK => ?_
    have hrun := run_append_zero (P := Try.prog) (wr.alloc (.cells #[] 3)) 23 o.type 3 i0 hi0 Try.underlying23 (some ⟨wr.heap.size, 0, none⟩) X 0 0 d (Nat.le_refl _)
    unfold Oper.wp
    simp [execOp, ho, resolve, invoke, builtin, hs, hz, hrun, Result.andThen]
    exact hK _ _ (h _ _ hown hbA)
  · obtain ⟨b, off, rfl, hb, hc⟩ := hx (by rw [hq]; exact h0)
    refine wpList_append_own _ hgd s z 23 ho wr.heap.size 3 i0 (.int .i64 0) 1 8 Try.underlying23 hi0 hI0 hI1 hI2 rfl (by decide) _ 0 [] hs hown ⟨b, off, none⟩ q d (ints x) hz (by rw [ints_len]; omega) ?_ ?_ ?_ ?_ hbA.size ?_
    · intro j u hj
      have hjl : j < x.length := by have := (List.getElem?_eq_some_iff.1 hj).1; rwa [ints_len] at this
      rw [ints_at hjl] at hj
      injection hj with hj
      subst hj
      rw [Addr.add_lit]
      exact ((bcell hbA).1 _ _ hb).trans (hc j hjl)
    · intro u hu
      obtain ⟨z, _, rfl⟩ := List.mem_map.1 hu
      rfl
    · unfold maxLen; omega
    · omega
    · intro v1 w1 h1 hg _
      rw [Nat.zero_add, List.nil_append] at h1
      exact h v1 w1 h1 (hbA.grown hg hbA.size (fun j hj => (hown.lt j hj).1))
/-- append(x, s): one more symbol. -/
theorem wpList_append_s (wr : World) {ops : Array Oper} {rest : List Oper} {o : Oper} {a : Act} {Q : Exit → Act → World → Prop} {B B2 q : Nat} {v : Value} {x : List Int} {t : Int} {w0 : World}
    (hown : wr.ownsRow B 3 1 v q (ints x)) (hq : x.length = q) (hlen : q ≤ 1000000) (hb0 : Below B w0 wr) (hB : B ≤ wr.heap.size) (hgd : o.guard = none) (s z : Operand)
    (ho : o.op = .call { callee := .builtin .append, args := #[s, z], argTypes := #[23, 23] }) (hs : a.eval s = v) (hz : a.eval z = .slice (some ⟨wr.heap.size, 0, none⟩) 1 1)
    (h : ∀ A1 c1 w1, RdK w1 B2 A1 (x ++ [t]) → Below B w0 w1 → wpList Try.prog ops Q rest (a.put o.dst (.slice A1 (q + 1) c1)) w1) :
    wpList Try.prog ops Q (o :: rest) a (wr.alloc (.cells #[.int .i64 t] 3)) := by
  obtain ⟨i0, hi0, hI0, hI1, hI2⟩ := info_parts int_info
  have hbA := hb0.alloc hB (.cells #[.int .i64 t] 3)
  refine wpList_append_own _ hgd s z 23 ho B 3 i0 (.int .i64 0) 1 8 Try.underlying23 hi0 hI0 hI1 hI2 rfl (by decide) v q (ints x) hs (hown.alloc _) ⟨wr.heap.size, 0, none⟩ 1 1 [.int .i64 t] hz rfl ?_ ?_ ?_ ?_ ?_ ?_
  · intro j u hj
    rw [Addr.add_lit, World.cell?_alloc_at _ _ _ _ rfl]
    match j, hj with
    | 0, hj => simpa using hj
  · intro u hu
    simp at hu
    rw [hu]; rfl
  · unfold maxLen; omega
  · omega
  · simp; omega
  · intro v1 w1 h1 hg _
    have hb1 := hbA.grown hg (by simp; omega) (fun j hj => (hown.lt j hj).1)
    rw [ints_snoc] at h1
    rcases h1.2 with ⟨_, h9⟩ | ⟨g, cap, cur, rfl, h2, h3, h4, _⟩
    · omega
    · refine h _ _ w1 (fun _ => ⟨g, 0, rfl, heap_ltT h3, Or.inr ⟨cur, h3⟩, fun k hk => ?_⟩) hb1
      have := h1.cells (g := g) rfl k _ (ints_at hk)
      rw [Addr.add_lit] at this
      exact this
set_option maxRecDepth 100000 in
set_option maxHeartbeats 2000000 in
theorem vexact_any (n k : Nat) (w : World) (hn : n ≤ 16) (hk1 : k ≤ 1000) (hsz : ∀ j, j ≤ k → (allW n j).length ≤ 1000000) :
    Calls Try.prog 40 #[.int .i64 n, .int .i64 k] w fun e w' => ∃ v B, e = .returned v ∧ w.heap.size ≤ B ∧ OwL false w' B v (allW n k) ∧ Below w.heap.size w w' := by
  have HZ := Lib.hid hsz
  have b1 := Lib.hid (((Below.refl w.heap.size w).alloc (Nat.le_refl _) (.cells #[] 3)).alloc (by simp) (.cells #[.slice (some ⟨w.heap.size, 0, none⟩) 0 0] 23))
  have s1 : Hid (OwL false ((w.alloc (.cells #[] 3)).alloc (.cells #[.slice (some ⟨w.heap.size, 0, none⟩) 0 0] 23)) w.heap.size (.slice (some ⟨w.heap.size + 1, 0, none⟩) 1 1) (allW n 0)) := by
    refine ⟨[.slice (some ⟨w.heap.size, 0, none⟩) 0 0], ?_, fun k x hk => ?_⟩
    · have := World.ownsRow_lit (base := w.heap.size) (e := 23) (size := 1) (w.alloc (.cells #[] 3)) #[.slice (some ⟨w.heap.size, 0, none⟩) 0 0] 1 (by simp) (by unfold maxLen; omega) rfl
      rw [World.size_alloc] at this
      exact this
    · have hk2 : k < 1 := (List.getElem?_eq_some_iff.1 hk).1
      obtain rfl : k = 0 := by omega
      have e : x = [] := by
        have : [([] : List Int)][0]? = some x := hk
        simpa using this.symm
      subst e
      exact ⟨_, 0, rfl, RdK.nil_, fun h => by cases h⟩
  have hz1 : w.heap.size ≤ ((w.alloc (.cells #[] 3)).alloc (.cells #[.slice (some ⟨w.heap.size, 0, none⟩) 0 0] 23)).heap.size := by simp; omega
  clear hsz
  go_enter Try.func40, Try.ntmps40
  go_wp2
  go_loopw [5, 6] (fun v z wr => ∃ j B1 : Nat, j ≤ k ∧ z = .int .i64 j ∧ w.heap.size ≤ B1 ∧ B1 ≤ wr.heap.size ∧ Hid (OwL false wr B1 v (allW n j)) ∧ Hid (Below w.heap.size w wr)) (fun _ z _ => k - (intOf z).toNat)
  case atStart => exact ⟨0, w.heap.size, Nat.zero_le _, rfl, Nat.le_refl _, hz1, s1.out, b1.out⟩
  case round =>
    clear s1 b1 hz1
    obtain ⟨j, B1, hj, rfl, hB1, hB1z, hO, hb⟩ := hrel
    by_cases hlt : j < k
    · obtain ⟨N, hN⟩ : ∃ N, (allW n j).length = N := ⟨_, rfl⟩
      obtain ⟨A, c, hv, hc, _⟩ := hO.out.form
      rw [hN] at hv
      subst hv
      have hN6 : N ≤ 1000000 := by rw [← hN]; exact HZ.out j (by omega)
      have HN := Lib.hid hN
      have HRD := Lib.hid hO.out.rds
      have HM := Lib.hid (fun y => (allW_mem (n := n) (k := j) (y := y)).1)
      have hj1 : j ≤ 1000 := by omega
      have HS6 : Hid (∀ i s, i < N → s ≤ n → (allS n j i s).length ≤ 1000000) := fun i s hi hs => by
        have h1 : (allS n j (i + 1) 0).length ≤ (allW n (j + 1)).length := by
          have e : allW n (j + 1) = ((allW n j).take (i + 1) ++ (allW n j).drop (i + 1)).flatMap (fun x => (List.range n).map fun s => x ++ [((s : Nat) : Int)]) := by rw [List.take_append_drop]; rfl
          rw [e, List.flatMap_append, List.length_append]
          simp [allS]
        have h2 := HZ.out (j + 1) (by omega)
        rw [← allS_next (by omega)] at h1
        have h3 : (allS n j i s).length = (allS n j i 0).length + s := by simp [allS]
        have h4 : (allS n j i n).length = (allS n j i 0).length + n := by simp [allS]
        omega
      clear hN hc hO
      obtain ⟨W, rfl⟩ : ∃ W : World, W = wr := ⟨_, rfl⟩
      have hBW := hb.out
      have HBW := Lib.hid hBW
      clear hb hBW
      go_wp2
      go_loopw [7, 8] (fun v z wq => ∃ i : Nat, i ≤ N ∧ z = .int .i64 i ∧ Hid (OwL false wq W.heap.size v (allS n j i 0)) ∧ Hid (Below W.heap.size W wq)) (fun _ z _ => N - (intOf z).toNat)
      case atStart => exact ⟨0, Nat.zero_le _, rfl, (by rw [allS_zero]; exact OwL.nil_ _ _), Below.refl _ _⟩
      case round =>
        obtain ⟨i, hi, rfl, hO, hb⟩ := hrel
        by_cases hlt2 : i < N
        · obtain ⟨bu, offu, Au, cu, mu, rfl, hbu, hcw, hru, hmu⟩ := HRD.out.at_ (k := i) (by rw [HN.out]; exact hlt2)
          have hml := (HM.out _ (M.row_mem (l := allW n j) (k := i) (by rw [HN.out]; exact hlt2))).2
          have hmu2 : mu ≤ 1000 := by have := hmu.out; omega
          have HST := Lib.hid (allS_step n j i)
          have HNX := Lib.hid (allS_next (n := n) (k := j) (i := i) (by rw [HN.out]; exact hlt2))
          obtain ⟨x, hx⟩ : ∃ x, M.row (allW n j) i = x := ⟨_, rfl⟩
          rw [hx] at hru hmu HST
          have HX := Lib.hid (And.intro hru (And.intro hcw hbu))
          clear hru hcw hbu hx hml
          go_wp2
          go_loopw [7, 9] (fun v z wq => ∃ s : Nat, s ≤ n ∧ z = .int .i64 s ∧ Hid (OwL false wq W.heap.size v (allS n j i s)) ∧ Hid (Below W.heap.size W wq)) (fun _ z _ => n - (intOf z).toNat)
          case atStart => exact ⟨0, Nat.zero_le _, rfl, hO.out, hb.out⟩
          case round =>
            clear hO hb
            obtain ⟨s, hs, rfl, hO, hb⟩ := hrel
            by_cases hlt3 : s < n
            · have hsn : (s : Int) < n := by omega
              obtain ⟨X, hX⟩ : ∃ X : World, X = wr := ⟨_, rfl⟩
              subst hX
              have hruq := HX.out.1.below hb.out
              have hcq := ((bcell hb.out).1 bu (offu + i) HX.out.2.2).trans HX.out.2.1
              have hbA := (Below.refl X.heap.size X).alloc (Nat.le_refl _) (.cells #[] 3)
              have hcq2 : (X.alloc (.cells #[] 3)).cell? ⟨bu, offu + i, none⟩ = some (.slice Au mu cu) := ((bcell hbA).1 bu (offu + i) (by have := hb.out.size; have := HX.out.2.2; omega)).trans hcq
              go_wp2_with (first
                | (refine wpList_append_xo X hruq hmu.out (by omega) rfl _ _ rfl rfl rfl ?_
                   intro v1 w1 ho1 hb1)
                | (refine wpList_append_s (B2 := W.heap.size) w1 ho1 hmu.out (by omega) hb1 hb1.size rfl _ _ rfl rfl rfl ?_
                   intro A1 c1 w2 hK hb2
                   have hO2 := hO.out.below hb2
                   have hbW2 := below_next hb.out hb2)
                | (refine wpList_append_w w2 hO2 (HS6.out i s hlt2 hs) hK (by simp; exact hmu.out) (fun h => by cases h) hbW2 hbW2.size rfl _ _ rfl rfl rfl ?_
                   intro v3 w3 hO3 hb3 _)
                | fail)
              rw [← HST.out s] at hO3
              have HO3 := Lib.hid hO3
              have HB3 := Lib.hid hb3
              clear hO3 hb3 hO2 hbW2 hK hb2 ho1 hb1 hcq2 hbA hcq hruq hO hb
              go_roundw
              case rel => exact ⟨s + 1, by omega, by go_num, HO3, HB3⟩
              case measure => simp [intOf]; omega
            · obtain rfl : s = n := by omega
              have hO2 := hO.out
              rw [HNX.out] at hO2
              have HO2 := Lib.hid hO2
              clear hO hO2
              go_wp2
              go_roundw
              case rel => exact ⟨i + 1, by omega, by go_num, HO2, hb⟩
              case measure => simp [intOf]; omega
        · obtain rfl : i = N := by omega
          have hO2 := hO.out
          rw [← HN.out, allS_all] at hO2
          have HO2 := Lib.hid hO2
          have hzW := HBW.out.size
          clear hO hO2
          go_wp2
          go_roundw
          case rel => exact ⟨j + 1, W.heap.size, by omega, by go_num, hzW, hb.out.size, HO2, below_next HBW.out hb.out⟩
          case measure => simp [intOf]; omega
    · obtain rfl : j = k := by omega
      go_wp2
      go_ret
      exact ⟨_, B1, rfl, hB1, hO.out, hb.out⟩
end Go.Proofs.Ytjodhihcckcefaa
