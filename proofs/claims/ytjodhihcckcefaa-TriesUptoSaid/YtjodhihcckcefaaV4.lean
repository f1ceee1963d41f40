/-
  Contracts: the reference: put, Sort. No statement is proved here.
-/
import Derived.Test.YtjodhihcckcefaaV3
import Derived.Test.YtjodhihcckcefaaU12
namespace Go.Proofs.Ytjodhihcckcefaa
open Go.RowKit Go.Maps

theorem RdK.nil_ {w : World} {base : Nat} {A : Option Addr} : RdK w base A [] := fun h => absurd h (by simp)
theorem OwL.formP {ex : Bool} {w : World} {base : Nat} {v : Value} {l : List (List Int)} (h : OwL ex w base v l) (hp : 0 < l.length) : ∃ g c, v = .slice (some ⟨g, 0, none⟩) l.length c ∧ base ≤ g ∧ l.length ≤ c := by
  obtain ⟨xs, h1, _⟩ := h
  rcases h1.2 with ⟨rfl, h0⟩ | ⟨g, cap, cur, rfl, h2, h3, h4, _⟩
  · omega
  · exact ⟨g, cap, rfl, h2, h4⟩
theorem OwL.cell {ex : Bool} {w : World} {base g n c : Nat} {l : List (List Int)} (h : OwL ex w base (.slice (some ⟨g, 0, none⟩) n c) l) {k : Nat} {y : List Int} (hk : l[k]? = some y) : ∃ A d, w.cell? ⟨g, k, none⟩ = some (.slice A y.length d) ∧ w.frozen? ⟨g, k, none⟩ = false ∧ RdK w base A y := by
  obtain ⟨xs, h1, h2⟩ := h
  obtain ⟨A, d, h3, h4, _⟩ := h2 k y hk
  refine ⟨A, d, ?_, ?_, h4⟩
  · have := h1.cells (g := g) rfl k _ h3
    rw [Addr.add_lit] at this
    simpa using this
  · rcases h1.2 with ⟨h', _⟩ | ⟨g', cap', cur, h', hb, hg, _⟩
    · cases h'
    · injection h' with h' _ _
      injection h' with h'
      injection h' with h' _ _
      subst h'
      simp [World.frozen?, hg]
theorem OwL.setAt {w : World} {base g n c : Nat} {l : List (List Int)} (h : OwL false w base (.slice (some ⟨g, 0, none⟩) n c) l) (k : Nat) {A : Option Addr} {x : List Int} {q d : Nat} (hq : x.length = q) (hx : RdK w base A x) :
    OwL false (w.setCell ⟨g, k, none⟩ (.slice A q d)) base (.slice (some ⟨g, 0, none⟩) n c) (l.set k x) := by
  subst hq
  have hrow := h.row
  obtain ⟨xs, h1, h2⟩ := h
  have hn : l.length = n := by
    rcases h1.2 with ⟨h', _⟩ | ⟨g', cap', cur, h', _⟩
    · cases h'
    · injection h' with _ h' _
      exact h'.symm
  rw [hn] at h1
  have hst := h1.stored k (.slice A x.length d)
  have hr : ∀ r, (some g : Option Nat) = some r → base ≤ r ∧ ∃ cs, w.heap[r]? = some (.cells cs 23 (0, 0)) := fun r hr => hrow r hr
  refine ⟨xs.set k (.slice A x.length d), by rw [List.length_set, hn]; exact hst.1, fun j y hj => ?_⟩
  have hxl : xs.length = l.length := by have := h1.1; omega
  by_cases e : k = j
  · subst e
    have hkl : k < l.length := by
      have := (List.getElem?_eq_some_iff.1 hj).1
      simpa using this
    rw [List.getElem?_set_self hkl] at hj
    injection hj with hj
    subst hj
    exact ⟨A, d, by rw [List.getElem?_set_self (by omega)], hx.kept hst.2 hr, fun h => by cases h⟩
  · rw [List.getElem?_set_ne e] at hj
    obtain ⟨C, d', h3, h4, h5⟩ := h2 j y hj
    exact ⟨C, d', by rw [List.getElem?_set_ne e]; exact h3, h4.kept hst.2 hr, h5⟩
set_option maxRecDepth 100000 in
/-- append([]int{}, x...): a word of the call's own. -/
theorem wpList_append_x (wr : World) {ops : Array Oper} {rest : List Oper} {o : Oper} {a : Act} {Q : Exit → Act → World → Prop} {B q d : Nat} {x : List Int} {X : Option Addr}
    (hx : Rd wr X x) (hq : x.length = q) (hlen : q ≤ 1000000) (hgd : o.guard = none) (s z : Operand)
    (ho : o.op = .call { callee := .builtin .append, args := #[s, z], argTypes := #[23, 23] }) (hs : a.eval s = .slice (some ⟨wr.heap.size, 0, none⟩) 0 0) (hz : a.eval z = .slice X q d)
    (h : ∀ A1 c1 w1, RdK w1 B A1 x → Below wr.heap.size wr w1 → wpList Try.prog ops Q rest (a.put o.dst (.slice A1 q c1)) w1) :
    wpList Try.prog ops Q (o :: rest) a (wr.alloc (.cells #[] 3)) := by
  obtain ⟨i0, hi0, hI0, hI1, hI2⟩ := info_parts int_info
  have hbA := (Below.refl wr.heap.size wr).alloc (Nat.le_refl _) (.cells #[] 3)
  rcases Nat.eq_zero_or_pos q with h0 | h0
  · subst h0
    obtain rfl : x = [] := List.length_eq_zero_iff.1 hq
    refine wpList_plain hgd fun K hK => ?_
    have hrun := run_append_zero (P := Try.prog) (wr.alloc (.cells #[] 3)) 23 o.type 3 i0 hi0 Try.underlying23 (some ⟨wr.heap.size, 0, none⟩) X 0 0 d (Nat.le_refl _)
    unfold Oper.wp
    simp [execOp, ho, resolve, invoke, builtin, hs, hz, hrun, Result.andThen]
    exact hK _ _ (h _ _ _ RdK.nil_ hbA)
  · obtain ⟨b, off, rfl, hb, hc⟩ := hx (by rw [hq]; exact h0)
    have hown := World.ownsRow_made (base := wr.heap.size) (e := 3) (size := 1) wr #[] 0 (Nat.le_refl _) (by unfold maxLen; omega) (by simp)
    refine wpList_append_own _ hgd s z 23 ho wr.heap.size 3 i0 (.int .i64 0) 1 8 Try.underlying23 hi0 hI0 hI1 hI2 rfl (by decide) _ 0 [] hs hown ⟨b, off, none⟩ q d (ints x) hz (by rw [ints_len]; omega) ?_ ?_ ?_ ?_ hbA.size ?_
    · intro j u hj
      have hjl : j < x.length := by have := (List.getElem?_eq_some_iff.1 hj).1; rwa [ints_len] at this
      rw [ints_at hjl] at hj
      injection hj with hj
      subst hj
      rw [Addr.add_lit]
      exact ((bcell hbA).1 _ _ hb).trans (hc j hjl)
    · intro u hu
      obtain ⟨z, _, rfl⟩ := List.mem_map.1 hu
      rfl
    · unfold maxLen; omega
    · omega
    · intro v1 w1 h1 hg _
      rw [Nat.zero_add, List.nil_append] at h1
      have hb1 : Below wr.heap.size wr w1 := hbA.grown hg hbA.size (fun j hj => (hown.lt j hj).1)
      rcases h1.2 with ⟨_, h9⟩ | ⟨g, cap, cur, rfl, h2, h3, h4, _⟩
      · omega
      · refine h _ _ w1 (fun _ => ⟨g, 0, rfl, heap_ltT h3, Or.inr ⟨cur, h3⟩, fun k hk => ?_⟩) hb1
        have := h1.cells (g := g) rfl k _ (ints_at hk)
        rw [Addr.add_lit] at this
        exact this
/-! ### A word put in its place -/
theorem put_asc {l : List (List Int)} {x : List Int} {i : Nat} (ha : M.asc l) (hi : i ≤ l.length) (h : Bs l x i i) (hx : ¬ x ∈ l) : M.asc (l.take i ++ x :: l.drop i) ∧ ∀ y, y ∈ l.take i ++ x :: l.drop i ↔ y ∈ l ∨ y = x := by
  have hsp : l.take i ++ l.drop i = l := List.take_append_drop i l
  have ha2 : M.asc (l.take i ++ l.drop i) := by rw [hsp]; exact ha
  unfold M.asc at ha2 ⊢
  rw [List.pairwise_append] at ha2 ⊢
  have hlo : ∀ y ∈ l.take i, M.cmp y x = -1 := fun y hy => by
    obtain ⟨k, hk, e⟩ := List.getElem_of_mem hy
    rw [List.length_take] at hk
    have e1 := M.row_at (l := l) (k := k) (by omega)
    rw [List.getElem_take] at e
    rw [List.getElem?_eq_getElem (by omega), e] at e1
    injection e1 with e1
    rw [e1]
    exact h.lo k (by omega)
  have hhi : ∀ y ∈ l.drop i, M.cmp x y = -1 := fun y hy => by
    obtain ⟨k, hk, e⟩ := List.getElem_of_mem hy
    rw [List.length_drop] at hk
    rw [List.getElem_drop] at e
    have e1 := M.row_at (l := l) (k := i + k) (by omega)
    rw [List.getElem?_eq_getElem (by omega), e] at e1
    injection e1 with e1
    have h1 := h.hi (i + k) (by omega) (by omega)
    rw [← e1] at h1
    have h2 := M.cmp_range y x
    have h3 := M.cmp_swap y x
    have h4 : M.cmp y x ≠ 0 := fun e0 => hx (by
      rw [← M.cmp_zero_iff.1 e0]
      exact List.mem_of_mem_drop hy)
    omega
  refine ⟨⟨ha2.1, List.pairwise_cons.2 ⟨hhi, ha2.2.1⟩, fun a h1 b h2 => ?_⟩, fun y => ?_⟩
  · rcases List.mem_cons.1 h2 with rfl | h3
    · exact hlo a h1
    · exact ha2.2.2 a h1 b h3
  · rw [List.mem_append, List.mem_cons]
    constructor
    · rintro (h1 | rfl | h1)
      · exact Or.inl (List.mem_of_mem_take h1)
      · exact Or.inr rfl
      · exact Or.inl (List.mem_of_mem_drop h1)
    · rintro (h1 | rfl)
      · rw [← hsp] at h1
        rcases List.mem_append.1 h1 with h2 | h2
        · exact Or.inl h2
        · exact Or.inr (Or.inr h2)
      · exact Or.inr (Or.inl rfl)
/-- A hole at place m. -/
def hole (l : List (List Int)) (h : List Int) (m : Nat) : List (List Int) := l.take m ++ h :: l.drop m
theorem hole_len {l : List (List Int)} {h : List Int} {m : Nat} (hm : m ≤ l.length) : (hole l h m).length = l.length + 1 := by
  unfold hole
  simp
  omega
theorem hole_prev {l : List (List Int)} {h : List Int} {k : Nat} (hk : k < l.length) : (hole l h (k + 1))[k]? = some (M.row l k) := by
  unfold hole
  rw [List.getElem?_append_left (by simp; omega), List.getElem?_take, if_pos (by omega), M.row_at hk]
theorem hole_set {l : List (List Int)} {h x : List Int} {m : Nat} (hm : m ≤ l.length) : (hole l h m).set m x = hole l x m := by
  unfold hole
  have h1 : (l.take m).length = m := by simp; omega
  rw [List.set_append_right _ _ (by omega), h1, Nat.sub_self]
  rfl
theorem hole_down {l : List (List Int)} {k : Nat} (hk : k < l.length) : hole l (M.row l k) (k + 1) = hole l (M.row l k) k := by
  unfold hole
  rw [take_row hk, List.append_assoc]
  congr 1
  have h1 : l.drop k = M.row l k :: l.drop (k + 1) := by
    rw [List.drop_eq_getElem_cons hk]
    have := M.row_at hk
    rw [List.getElem?_eq_getElem hk] at this
    injection this with this
    rw [this]
  rw [h1]
  rfl
theorem hole_at {l : List (List Int)} {h : List Int} {m : Nat} (hm : m ≤ l.length) : (hole l h m)[m]? = some h := by
  unfold hole
  have h1 : (l.take m).length = m := by simp; omega
  rw [List.getElem?_append_right (by omega), h1, Nat.sub_self]
  rfl
theorem RdK.set_ {w : World} {base g k : Nat} {A : Option Addr} {x : List Int} (h : RdK w base A x) (u : Value) (hgB : base ≤ g) (hg : ∃ cs, w.heap[g]? = some (.cells cs 23 (0, 0))) : RdK (w.setCell ⟨g, k, none⟩ u) base A x :=
  h.kept (row := some g) ⟨rfl, rfl, rfl, by simp, fun j _ hj => Below.heap_setCell w ⟨g, k, none⟩ u j (fun e => hj (by rw [e]))⟩ fun r hr => by cases hr; exact ⟨hgB, hg⟩
theorem hole_end (l : List (List Int)) : hole l [] l.length = l ++ [[]] := by
  unfold hole
  simp
set_option maxRecDepth 100000 in
set_option maxHeartbeats 4000000 in
theorem vput_any (B q d : Nat) (v : Value) (l : List (List Int)) (X : Option Addr) (x : List Int) (w : World) (hO : OwL false w B v l) (hB : B ≤ w.heap.size) (ha : M.asc l) (hl : l.length ≤ 100000) (hall : Wl l) (hx : RdK w B X x) (hq : x.length = q) (hq1 : q ≤ 1000000) :
    Calls Try.prog 58 #[v, .slice X q d] w fun e w' => ∃ v' l', e = .returned v' ∧ OwL false w' B v' l' ∧ M.asc l' ∧ (∀ y, y ∈ l' ↔ y ∈ l ∨ y = x) ∧ Below B w w' := by
  obtain ⟨A, c, rfl, hc, _⟩ := hO.form
  obtain ⟨N, hN⟩ : ∃ N, l.length = N := ⟨_, rfl⟩
  have hb0 := Bs.start l x
  have HB0 := Lib.hid hb0
  have HO := Lib.hid hO
  have HN := Lib.hid hN
  have HA := Lib.hid ha
  have HW := Lib.hid hall
  have HX := Lib.hid hx
  have HQ := Lib.hid hq
  rw [hN] at hl hc HB0 ⊢
  rw [hN] at HO
  have HH := Lib.hid HO.out.rds
  clear hO hN ha hall hx hq hb0
  go_enter Try.func58, Try.ntmps58
  go_wp2
  go_loopw [5, 6] (fun u v wr => ∃ i j : Nat, u = .int .i64 i ∧ v = .int .i64 j ∧ j ≤ N ∧ Hid (Bs l x i j) ∧ Hid (Below w.heap.size w wr)) (fun u v _ => (intOf v).toNat - (intOf u).toNat)
  case atStart => exact ⟨0, N, rfl, rfl, Nat.le_refl _, HB0.out, Below.refl _ _⟩
  case round =>
    clear HB0
    obtain ⟨i, j, rfl, rfl, hjN, hBs, hb⟩ := hrel
    by_cases hlt : i < j
    · have hij : (i : Int) < j := by omega
      obtain ⟨m, hm1, hm2, hm3⟩ : ∃ m : Nat, i ≤ m ∧ m < j ∧ m = (i + j) / 2 := ⟨(i + j) / 2, by omega, by omega, rfl⟩
      go_upto_region 5 with fail
      first
        | (have hem : ((i : Int) + j) / 2 = (m : Int) := by omega
           rw [hem]
           clear hem)
        | (have hem : ((i : Int) + j).tdiv 2 = (m : Int) := by rw [Int.tdiv_eq_ediv_of_nonneg (by omega)]; omega
           rw [hem]
           clear hem)
        | trace_state
      clear hm3
      have hml0 : m < l.length := by rw [HN.out]; omega
      have hmN : (m : Int) < N := by omega
      obtain ⟨b, off, A2, cc, t, hAe, hbw, hc2, hrd, hml⟩ := (HH.out.below hb.out).at_ hml0
      subst hAe
      have CW := Lib.hid (vcmp_at A2 X t q cc d _ _ wr hrd ((HX.out.below hb.out).rd) hml.out HQ.out (by have := HW.out _ (M.row_mem hml0); have := hml.out; omega))
      obtain ⟨z, hz⟩ : ∃ z, M.cmp (M.row l m) x = z := ⟨_, rfl⟩
      have hzr := M.cmp_range (M.row l m) x
      rw [hz] at CW hzr
      have HZ := Lib.hid hz
      clear hz hrd hml
      by_cases hneg : z = -1
      · subst hneg
        have HB2 := Lib.hid (hBs.out.up HA.out hm1 hm2 HZ.out)
        clear hBs HZ hzr
        go_wp2_with fail
        refine CW.out.mono ?_
        rintro e w1 ⟨rfl, hb1⟩
        have HB := Lib.hid (below_next hb.out hb1)
        clear hb hb1 hc2 CW
        go_wp2
        go_roundw
        case rel => exact ⟨m + 1, j, by go_num, rfl, hjN, HB2, HB⟩
        case measure => simp [intOf]; omega
      · have hz1 : decide (z < 0) = false := decide_eq_false (by omega)
        have hz2 : ¬ z < 0 := by omega
        have HB2 := Lib.hid (hBs.out.down HA.out hm1 hm2 (by rw [HZ.out]; exact hneg))
        clear hBs HZ hzr
        go_wp2_with fail
        refine CW.out.mono ?_
        rintro e w1 ⟨rfl, hb1⟩
        have HB := Lib.hid (below_next hb.out hb1)
        clear hb hb1 hc2 CW
        go_wp2
        go_roundw
        case rel => exact ⟨i, m, rfl, rfl, by omega, HB2, HB⟩
        case measure => simp [intOf]; omega
    · have hij : ¬ (i : Int) < j := by omega
      obtain rfl : i = j := by have := hBs.out.le; omega
      by_cases hin : x ∈ l
      · have hend := (hBs.out.end_ HA.out).1 hin
        rw [HN.out] at hend
        have hiNi : (i : Int) < N := by omega
        have hml0 : i < l.length := by rw [HN.out]; omega
        obtain ⟨b, off, A2, cc, t, hAe, hbw, hc2, hrd, hml⟩ := (HH.out.below hb.out).at_ hml0
        subst hAe
        have CW := vcmp_at A2 X t q cc d _ _ wr hrd ((HX.out.below hb.out).rd) hml.out HQ.out (by have := HW.out _ (M.row_mem hml0); have := hml.out; omega)
        rw [hend.2] at CW
        have CW := Lib.hid CW
        clear hrd hml hBs hend
        go_wp2_with fail
        refine CW.out.mono ?_
        rintro e w1 ⟨rfl, hb1⟩
        have HB := Lib.hid (below_next hb.out hb1)
        clear hb hb1 hc2 CW
        go_wp2
        go_ret
        exact ⟨_, l, rfl, HO.out.below HB.out, HA.out, fun y => ⟨Or.inl, fun h => h.elim id (fun e => by rw [e]; exact hin)⟩, HB.out.mono hB⟩
      · have hpa := put_asc HA.out (by rw [HN.out]; exact hjN) hBs.out hin
        have HPA := Lib.hid hpa
        have HE := Lib.hid (hBs.out.end_ HA.out)
        clear hBs hpa
        by_cases hiN : i < N
        · have hiNi : (i : Int) < N := by omega
          have hml0 : i < l.length := by rw [HN.out]; omega
          obtain ⟨b, off, A2, cc, t, hAe, hbw, hc2, hrd, hml⟩ := (HH.out.below hb.out).at_ hml0
          subst hAe
          have CW := Lib.hid (vcmp_at A2 X t q cc d _ _ wr hrd ((HX.out.below hb.out).rd) hml.out HQ.out (by have := HW.out _ (M.row_mem hml0); have := hml.out; omega))
          obtain ⟨z, hz⟩ : ∃ z, M.cmp (M.row l i) x = z := ⟨_, rfl⟩
          rw [hz] at CW
          have hz0 : (z == 0) = false := by
            rw [beq_eq_false_iff_ne]
            intro e
            exact hin (HE.out.2 ⟨hml0, by rw [hz, e]⟩)
          clear hrd hml hz HE
          go_wp2_with fail
          refine CW.out.mono ?_
          rintro e w1 ⟨rfl, hb1⟩
          have BW := below_next hb.out hb1
          clear hb hb1 hc2 CW
          have BBW := BW.mono hB
          have hxW := HX.out.below BW
          have hOW := HO.out.below BW
          have hBz := BBW.size
          go_upto_region 10 with fail
          go_upto_region 11 with (first
            | (refine wpList_append_w (x := []) w1 hOW (by rw [HN.out]; omega) RdK.nil_ rfl (fun h => by cases h) BBW (Nat.le_trans hB BW.size) rfl _ _ rfl rfl rfl ?_
               intro v1 w4 hO4 hb4 hg4)
            | fail)
          have hx4 : RdK w4 B X x := (hxW.below ((Below.refl _ _).alloc (Nat.le_refl _) _)).kept hg4 fun r hr => by
            obtain ⟨h1, cs, h2⟩ := hOW.row r hr
            exact ⟨h1, cs, (Below.heap_alloc _ _ r (heap_ltT h2)).trans h2⟩
          obtain ⟨g, c1, hv1, hgB, hc1⟩ := hO4.formP (by simp)
          rw [← hole_end, HN.out] at hO4
          have hlen4 : (l ++ [[]]).length = N + 1 := by simp; exact HN.out
          rw [hlen4] at hv1 hc1
          subst hv1
          have HO4 := Lib.hid hO4
          have HB4 := Lib.hid hb4
          have HX4 := Lib.hid hx4
          clear hO4 hb4 hg4 hx4 BBW hxW hOW BW hBz hlen4
          go_wp2
          go_loopw [8] (fun u wq => ∃ (m : Nat) (h : List Int), u = .int .i64 m ∧ i ≤ m ∧ m ≤ N ∧ Hid (OwL false wq B (.slice (some ⟨g, 0, none⟩) (N + 1) c1) (hole l h m)) ∧ Hid (Below B w wq) ∧ Hid (RdK wq B X x)) (fun u _ => (intOf u).toNat)
          case atStart => exact ⟨N, [], by go_num, hjN, Nat.le_refl _, HO4.out, HB4.out, HX4.out⟩
          case round =>
            clear HO4 HB4 HX4
            obtain ⟨m, h, rfl, him, hmN, HOq, HBq, HXq⟩ := hrel
            have hmL : m ≤ l.length := by rw [HN.out]; exact hmN
            obtain ⟨A5, d5, hc5, hf5, _⟩ := HOq.out.cell (hole_at hmL)
            by_cases hlt : i < m
            · obtain ⟨k, rfl⟩ : ∃ k, m = k + 1 := ⟨m - 1, by omega⟩
              have hkl : k < l.length := by omega
              obtain ⟨A6, d6, hc6, hf6, hk6⟩ := HOq.out.cell (hole_prev (h := h) hkl)
              have ek : ((k + 1 : Nat) : Int) = (k : Int) + 1 := by omega
              obtain ⟨t, ht⟩ : ∃ t, (M.row l k).length = t := ⟨_, rfl⟩
              rw [ht] at hc6
              have hO7 := HOq.out.setAt (k + 1) (d := d6) ht hk6
              rw [hole_set hmL, hole_down hkl] at hO7
              have HO7 := Lib.hid hO7
              have HB7 := Lib.hid (HBq.out.setCell (p := ⟨g, k + 1, none⟩) hgB (.slice A6 t d6))
              have HX7 := Lib.hid (HXq.out.set_ (k := k + 1) (.slice A6 t d6) hgB (HOq.out.row g rfl).2)
              have hik : (i : Int) < (k : Int) + 1 := by omega
              have hik0 : (0 : Int) ≤ (k : Int) + 1 := by omega
              have hkN : (k : Int) + 1 < (N : Int) + 1 := by omega
              have hkN2 : (k : Int) < (N : Int) + 1 := by omega
              have hw1 : IntKind.i64.wrap (k : Int) = k := IntWalk.i64_in _ (by omega)
              clear hO7 HOq HBq HXq hk6 ht
              rw [ek]
              go_wp2
              go_roundw
              case rel => exact ⟨k, _, by go_num, by omega, by omega, HO7, HB7, HX7⟩
              case measure => simp [intOf]
            · obtain rfl : i = m := by omega
              have hin2 : ¬ (i : Int) < i := by omega
              have hiN2 : (i : Int) < (N : Int) + 1 := by omega
              have hl5 := HXq.out.rd
              have HBz := HBq.out.size
              go_wp2_with (first
                | (refine wpList_append_x (B := B) wr hl5 HQ.out hq1 rfl _ _ rfl rfl rfl ?_
                   intro A8 c8 w8 hK8 hb8
                   have hO8 := HOq.out.below hb8
                   obtain ⟨A9, d9, hc9, hf9, _⟩ := hO8.cell (hole_at (h := h) hmL)
                   have hO9 := hO8.setAt i (d := c8) HQ.out hK8
                   have hB9 := (HBq.out.trans (hb8.mono (Nat.le_trans hB HBz))).setCell (p := ⟨g, i, none⟩) hgB (.slice A8 q c8))
                | fail)
              rw [hole_set hmL] at hO9
              have HO9 := Lib.hid hO9
              have HB9 := Lib.hid hB9
              clear hO9 hB9 hO8 hK8 hb8 HOq HBq HXq
              go_wp2
              go_ret
              exact ⟨.slice (some ⟨g, 0, none⟩) (N + 1) c1, rfl, hole l x i, HO9.out, HPA.out.1, HPA.out.2, HB9.out⟩
        · have hiNi : ¬ (i : Int) < N := by omega
          have BW := hb.out
          clear hb HE
          have BBW := BW.mono hB
          have hxW := HX.out.below BW
          have hOW := HO.out.below BW
          have hBz := BBW.size
          go_upto_region 10 with fail
          go_upto_region 11 with (first
            | (refine wpList_append_w (x := []) wr hOW (by rw [HN.out]; omega) RdK.nil_ rfl (fun h => by cases h) BBW (Nat.le_trans hB BW.size) rfl _ _ rfl rfl rfl ?_
               intro v1 w4 hO4 hb4 hg4)
            | fail)
          have hx4 : RdK w4 B X x := (hxW.below ((Below.refl _ _).alloc (Nat.le_refl _) _)).kept hg4 fun r hr => by
            obtain ⟨h1, cs, h2⟩ := hOW.row r hr
            exact ⟨h1, cs, (Below.heap_alloc _ _ r (heap_ltT h2)).trans h2⟩
          obtain ⟨g, c1, hv1, hgB, hc1⟩ := hO4.formP (by simp)
          rw [← hole_end, HN.out] at hO4
          have hlen4 : (l ++ [[]]).length = N + 1 := by simp; exact HN.out
          rw [hlen4] at hv1 hc1
          subst hv1
          have HO4 := Lib.hid hO4
          have HB4 := Lib.hid hb4
          have HX4 := Lib.hid hx4
          clear hO4 hb4 hg4 hx4 BBW hxW hOW BW hBz hlen4
          go_wp2
          go_loopw [8] (fun u wq => ∃ (m : Nat) (h : List Int), u = .int .i64 m ∧ i ≤ m ∧ m ≤ N ∧ Hid (OwL false wq B (.slice (some ⟨g, 0, none⟩) (N + 1) c1) (hole l h m)) ∧ Hid (Below B w wq) ∧ Hid (RdK wq B X x)) (fun u _ => (intOf u).toNat)
          case atStart => exact ⟨N, [], by go_num, hjN, Nat.le_refl _, HO4.out, HB4.out, HX4.out⟩
          case round =>
            clear HO4 HB4 HX4
            obtain ⟨m, h, rfl, him, hmN, HOq, HBq, HXq⟩ := hrel
            have hmL : m ≤ l.length := by rw [HN.out]; exact hmN
            obtain ⟨A5, d5, hc5, hf5, _⟩ := HOq.out.cell (hole_at hmL)
            by_cases hlt : i < m
            · exact absurd hlt (by omega)
            · obtain rfl : i = m := by omega
              have hin2 : ¬ (i : Int) < i := by omega
              have hiN2 : (i : Int) < (N : Int) + 1 := by omega
              have hl5 := HXq.out.rd
              have HBz := HBq.out.size
              go_wp2_with (first
                | (refine wpList_append_x (B := B) wr hl5 HQ.out hq1 rfl _ _ rfl rfl rfl ?_
                   intro A8 c8 w8 hK8 hb8
                   have hO8 := HOq.out.below hb8
                   obtain ⟨A9, d9, hc9, hf9, _⟩ := hO8.cell (hole_at (h := h) hmL)
                   have hO9 := hO8.setAt i (d := c8) HQ.out hK8
                   have hB9 := (HBq.out.trans (hb8.mono (Nat.le_trans hB HBz))).setCell (p := ⟨g, i, none⟩) hgB (.slice A8 q c8))
                | fail)
              rw [hole_set hmL] at hO9
              have HO9 := Lib.hid hO9
              have HB9 := Lib.hid hB9
              clear hO9 hB9 hO8 hK8 hb8 HOq HBq HXq
              go_wp2
              go_ret
              exact ⟨.slice (some ⟨g, 0, none⟩) (N + 1) c1, rfl, hole l x i, HO9.out, HPA.out.1, HPA.out.2, HB9.out⟩
end Go.Proofs.Ytjodhihcckcefaa
