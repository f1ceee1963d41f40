/-
  Mathematics for the laws of tries: all words up to a length, tries of lists; facts kept over calls; lists written in the text. No statement is proved here.
-/
import Derived.Test.YtjodhihcckcefaaU27
import Derived.Test.YtjodhihcckcefaaV7
import Derived.Test.YtjodhihcckcefaaV8
import Derived.Test.YtjodhihcckcefaaU15
namespace Go.Proofs.Ytjodhihcckcefaa
open Go.RowKit Go.Maps

/-! ### All words up to a length -/
theorem lex_snoc : ∀ {a b : List Int} {s t : Int}, a.length = b.length → M.lex a b = -1 → M.lex (a ++ [s]) (b ++ [t]) = -1
  | [], [], _, _, _, h => by simp [M.lex] at h
  | [], _ :: _, _, _, hl, _ => by simp at hl
  | _ :: _, [], _, _, hl, _ => by simp at hl
  | x :: a, y :: b, s, t, hl, h => by
    show (if x < y then (-1 : Int) else if y < x then 1 else M.lex (a ++ [s]) (b ++ [t])) = -1
    have h2 : (if x < y then (-1 : Int) else if y < x then 1 else M.lex a b) = -1 := h
    by_cases h3 : x < y
    · rw [if_pos h3]
    · rw [if_neg h3] at h2 ⊢
      by_cases h4 : y < x
      · rw [if_pos h4] at h2; cases h2
      · rw [if_neg h4] at h2 ⊢
        exact lex_snoc (by simpa using hl) h2
theorem cmp_same {a b : List Int} (h : a.length = b.length) : M.cmp a b = M.lex a b := by unfold M.cmp; rw [if_neg (by omega), if_neg (by omega)]
theorem allW_asc (n : Nat) : ∀ k, M.asc (allW n k)
  | 0 => List.pairwise_singleton _ _
  | k + 1 => by
    show ((allW n k).flatMap fun x => (List.range n).map fun s => x ++ [((s : Nat) : Int)]).Pairwise _
    rw [List.pairwise_flatMap]
    refine ⟨fun a _ => ?_, List.Pairwise.imp_of_mem (fun {a b} ha hb hab x hx y hy => ?_) (allW_asc n k)⟩
    · rw [List.pairwise_map]
      refine List.Pairwise.imp (fun {s t} (hst : s < t) => ?_) List.pairwise_lt_range
      rw [cmp_same (by simp), M.lex_app]
      show (if (s : Int) < t then (-1 : Int) else _) = -1
      rw [if_pos (by omega)]
    · obtain ⟨s, _, rfl⟩ := List.mem_map.1 hx
      obtain ⟨t, _, rfl⟩ := List.mem_map.1 hy
      have l1 := (allW_mem.1 ha).2
      have l2 := (allW_mem.1 hb).2
      rw [cmp_same (by omega)] at hab
      rw [cmp_same (by simp; omega)]
      exact lex_snoc (by omega) hab
def uptoW (n k : Nat) : List (List Int) := (List.range (k + 1)).flatMap (allW n)
theorem uptoW_asc (n k : Nat) : M.asc (uptoW n k) := by
  show List.Pairwise _ _
  unfold uptoW
  rw [List.pairwise_flatMap]
  refine ⟨fun a _ => allW_asc n a, List.Pairwise.imp (fun {s t} (hst : s < t) x hx y hy => ?_) List.pairwise_lt_range⟩
  have l1 := (allW_mem.1 hx).2
  have l2 := (allW_mem.1 hy).2
  exact M.cmp_short (by omega)
theorem uptoW_mem {n k : Nat} {y : List Int} : y ∈ uptoW n k ↔ M.Val n y ∧ y.length ≤ k := by
  unfold uptoW
  rw [List.mem_flatMap]
  constructor
  · rintro ⟨j, hj, hy⟩
    have := List.mem_range.1 hj
    have h := allW_mem.1 hy
    exact ⟨h.1, by omega⟩
  · rintro ⟨h1, h2⟩
    exact ⟨y.length, List.mem_range.2 (by omega), allW_mem.2 ⟨h1, rfl⟩⟩
theorem allW_len (n : Nat) : ∀ k, (allW n k).length = n ^ k
  | 0 => rfl
  | k + 1 => by
    show ((allW n k).flatMap fun x => (List.range n).map fun s => x ++ [((s : Nat) : Int)]).length = _
    rw [List.length_flatMap]
    have : (allW n k).map (fun x => ((List.range n).map fun s => x ++ [((s : Nat) : Int)]).length) = List.replicate (n ^ k) n := by
      rw [← allW_len n k, List.eq_replicate_iff]
      refine ⟨by simp, fun b hb => ?_⟩
      obtain ⟨x, _, rfl⟩ := List.mem_map.1 hb
      simp
    rw [this, List.sum_replicate_nat, Nat.pow_succ]
theorem uptoW_zero (n : Nat) : uptoW n 0 = allW n 0 := by simp [uptoW]
theorem uptoW_succ (n k : Nat) : uptoW n (k + 1) = uptoW n k ++ allW n (k + 1) := by
  unfold uptoW
  rw [List.range_succ, List.flatMap_append]
  simp
/-! ### Lists of the text -/
theorem mem_both {S T : List (List Int)} (h1 : ∀ x ∈ S, x ∈ T) (h2 : ∀ x ∈ T, x ∈ S) (x : List Int) : x ∈ S ↔ x ∈ T := ⟨h1 x, h2 x⟩
theorem mem_pre {rows : List (List Int)} {x : List Int} : (∃ y ∈ rows, x <+: y) ↔ x ∈ rows.flatMap fun y => (List.range (y.length + 1)).map fun j => y.take j := by
  rw [List.mem_flatMap]
  constructor
  · rintro ⟨y, hy, hp⟩
    refine ⟨y, hy, List.mem_map.2 ⟨x.length, List.mem_range.2 (by have := hp.length_le; omega), (List.prefix_iff_eq_take.1 hp).symm⟩⟩
  · rintro ⟨y, hy, hx⟩
    obtain ⟨j, _, rfl⟩ := List.mem_map.1 hx
    exact ⟨y, hy, List.take_prefix _ _⟩
theorem gE_zero {S : List (List Int)} {n E : Int} (hE : E = 0) (h : M.Lv S n) : gE E S n = 0 := by subst hE; unfold gE; rw [if_neg (by decide), if_pos h]
theorem gE_three {S : List (List Int)} {n E : Int} (hE : E = 0) (h : ¬ M.Lv S n) : gE E S n = 3 := by subst hE; unfold gE; rw [if_neg (by decide), if_neg h]
/-! ### The trie of a list is a tree -/
theorem trN_at {S rows : List (List Int)} {n k : Nat} {x : Nd} (h : (trN S rows n)[k]? = some x) : ∃ y, S[k]? = some y ∧ x = (nxS S n y, decide (y ∈ rows)) := by
  unfold trN at h
  rw [List.getElem?_map] at h
  obtain ⟨y, h1, h2⟩ := Option.map_eq_some_iff.1 h
  exact ⟨y, h1, h2.symm⟩
theorem keyz_trN {S rows : List (List Int)} {n : Nat} (h : Pfx rows S) (hby : ∀ y ∈ rows, M.By y ∧ y.length ≤ 65537) : Keyz (trN S rows n) S := by
  refine ⟨by simp [trN], fun x hx => ?_, fun k i j x hx hi => ?_, fun x hx => ?_, fun x hx => ?_⟩
  · have h0 : 0 < S.length := (List.getElem?_eq_some_iff.1 hx).1
    have h1 := M.row_at h0
    rw [hx] at h1
    injection h1 with h1
    rw [h1]
    exact h.root h0
  · obtain ⟨y, hy, rfl⟩ := trN_at hx
    refine ⟨y, hy, ?_⟩
    simp only at hi
    unfold nxS at hi
    rw [List.getElem?_map] at hi
    obtain ⟨z, hz, he⟩ := Option.map_eq_some_iff.1 hi
    have hzi : z = i := by
      obtain ⟨h1, h2⟩ := List.getElem?_eq_some_iff.1 hz
      simp at h2
      exact h2.symm
    subst hzi
    unfold ixS at he
    by_cases hm : (y ++ [(z : Int)]) ∈ S
    · rw [if_pos hm] at he
      have hj : S.idxOf (y ++ [(z : Int)]) = j := by omega
      have hl := List.idxOf_lt_length_iff.2 hm
      rw [← hj, List.getElem?_eq_getElem hl, List.getElem_idxOf]
    · rw [if_neg hm] at he
      omega
  · obtain ⟨y, hy, hp⟩ := (h.mem x).1 hx
    exact fun z hz => (hby y hy).1 z (hp.subset hz)
  · obtain ⟨y, hy, hp⟩ := (h.mem x).1 hx
    have := (hby y hy).2
    have := hp.length_le
    omega
/-! ### What is kept over calls -/
structure KW where
  p : World → Prop
  k : ∀ w w', p w → Below w.heap.size w w' → p w'
def AllK (w : World) (L : List KW) : Prop := ∀ P ∈ L, P.p w
theorem AllK.nil_ (w : World) : AllK w [] := fun _ h => absurd h (by simp)
theorem AllK.next {w w' : World} {L : List KW} (h : AllK w L) (hb : Below w.heap.size w w') : AllK w' L := fun P hP => P.k _ _ (h P hP) hb
theorem AllK.put {w : World} {L : List KW} {P : KW} (h : AllK w L) (hp : P.p w) : AllK w (P :: L) := fun Q hQ => by
  rcases List.mem_cons.1 hQ with rfl | hQ
  · exact hp
  · exact h Q hQ
theorem AllK.get {w : World} {L : List KW} (h : AllK w L) (i : Nat) {P : KW} (hi : L[i]? = some P) : P.p w := h P (List.mem_of_getElem? hi)
theorem AllK.drop_ {w : World} {L : List KW} (h : AllK w L) (i : Nat) : AllK w (L.drop i) := fun P hP => h P (List.mem_of_mem_drop hP)
def kRd (A : Option Addr) (x : List Int) : KW := ⟨fun w => Rd w A x, fun _ _ h hb => h.below hb⟩
def kRdS (A : Option Addr) (l : List (List Int)) : KW := ⟨fun w => RdS w A l, fun _ _ h hb => h.below hb⟩
def kRdX (A : Option Addr) (l : List (List Int)) : KW := ⟨fun w => RdX w A l, fun _ _ h hb => h.below hb⟩
def kRdN (A : Option Addr) (l : List Nd) : KW := ⟨fun w => RdN w A l, fun _ _ h hb => h.below hb⟩
def kBx2 (g : Nat) (T : TypeId) (u v : Value) : KW := ⟨fun w => Bx2 w g T u v, fun _ _ h hb => h.below hb⟩
/-! ### Lists written in the text -/
theorem rd_none (w : World) : Rd w none [] := fun h => absurd h (by simp)
section
variable {w : World} {ops : Array Oper} {rest : List Oper} {o : Oper} {a : Act} {Q : Exit → Act → World → Prop} {L : List KW} {W0 : World}
theorem wanted_none {o : Oper} {y : Nat → Option Bool} (h : o.guard = none) : Region.wanted o y = true := by simp [Region.wanted, h]
theorem wpList_lit1 (hL : AllK w L) (hB : Below W0.heap.size W0 w) (hg : Region.wanted o (yielded ops a.tmps) = true) (o0 : Operand) (hop : o.op = .buildSlice 23 1 #[(0, o0)]) {z : Int} (h0 : a.eval o0 = .int .i64 z)
    (hK : ∀ w', AllK w' (kRd (some ⟨w.heap.size, 0, none⟩) [z] :: L) → Below W0.heap.size W0 w' → wpList Try.prog ops Q rest (a.put o.dst (.slice (some ⟨w.heap.size, 0, none⟩) 1 1)) w') : wpList Try.prog ops Q (o :: rest) a w := by
  refine wpList_step fun K hK' => ?_
  rw [if_pos hg]
  have hb : Below w.heap.size w (w.alloc (.cells #[.int .i64 z] 3)) := (Below.refl _ _).alloc (Nat.le_refl _) _
  unfold Oper.wp
  simp only [execOp, hop, List.map_toArray, List.map_cons, List.map_nil, h0]
  simp [go_sem]
  exact hK' _ _ (hK _ ((hL.next hb).put (Rd.of_block (t := 3) (zs := [z]) (heap_alloc_new w _))) (below_next hB hb))
theorem wpList_lit2 (hL : AllK w L) (hB : Below W0.heap.size W0 w) (hg : Region.wanted o (yielded ops a.tmps) = true) (o0 o1 : Operand) (hop : o.op = .buildSlice 23 2 #[(0, o0), (1, o1)]) {z y : Int} (h0 : a.eval o0 = .int .i64 z) (h1 : a.eval o1 = .int .i64 y)
    (hK : ∀ w', AllK w' (kRd (some ⟨w.heap.size, 0, none⟩) [z, y] :: L) → Below W0.heap.size W0 w' → wpList Try.prog ops Q rest (a.put o.dst (.slice (some ⟨w.heap.size, 0, none⟩) 2 2)) w') : wpList Try.prog ops Q (o :: rest) a w := by
  refine wpList_step fun K hK' => ?_
  rw [if_pos hg]
  have hb : Below w.heap.size w (w.alloc (.cells #[.int .i64 z, .int .i64 y] 3)) := (Below.refl _ _).alloc (Nat.le_refl _) _
  unfold Oper.wp
  simp only [execOp, hop, List.map_toArray, List.map_cons, List.map_nil, h0, h1]
  simp [go_sem]
  exact hK' _ _ (hK _ ((hL.next hb).put (Rd.of_block (t := 3) (zs := [z, y]) (heap_alloc_new w _))) (below_next hB hb))
/-- A list of words in a block. -/
theorem rds_lit {w : World} {g : Nat} {vs : List Value} {T : TypeId} {rows : List (List Int)} (hg : w.heap[g]? = some (.cells vs.toArray T (0, 0))) (hv : ∀ k, k < rows.length → ∃ A c, vs[k]? = some (.slice A (M.row rows k).length c) ∧ Rd w A (M.row rows k)) : RdS w (some ⟨g, 0, none⟩) rows := fun _ => by
  refine ⟨g, 0, rfl, heap_ltT hg, fun k hk => ?_⟩
  obtain ⟨A, c, h1, h2⟩ := hv k hk
  refine ⟨A, c, ?_, h2⟩
  rw [Nat.zero_add, cell_of_row w g k _ T (0, 0) hg]
  simpa using h1
theorem wpList_litW1 (hL : AllK w L) (hB : Below W0.heap.size W0 w) (hg : Region.wanted o (yielded ops a.tmps) = true) (o0 : Operand) (hop : o.op = .buildSlice 22 1 #[(0, o0)]) {A0 : Option Addr} {n0 c0 : Nat} {x0 : List Int} (h0 : a.eval o0 = .slice A0 n0 c0) (r0 : Rd w A0 x0) (l0 : x0.length = n0)
    (hK : ∀ w', AllK w' (kRdS (some ⟨w.heap.size, 0, none⟩) [x0] :: L) → Below W0.heap.size W0 w' → wpList Try.prog ops Q rest (a.put o.dst (.slice (some ⟨w.heap.size, 0, none⟩) 1 1)) w') : wpList Try.prog ops Q (o :: rest) a w := by
  subst l0
  refine wpList_step fun K hK' => ?_
  rw [if_pos hg]
  have hb : Below w.heap.size w (w.alloc (.cells #[.slice A0 x0.length c0] 23)) := (Below.refl _ _).alloc (Nat.le_refl _) _
  unfold Oper.wp
  simp only [execOp, hop, List.map_toArray, List.map_cons, List.map_nil, h0]
  simp [go_sem]
  refine hK' _ _ (hK _ ((hL.next hb).put (P := kRdS _ _) (rds_lit (vs := [.slice A0 x0.length c0]) (heap_alloc_new w _) fun k hk => ?_)) (below_next hB hb))
  match k, hk with
  | 0, _ => exact ⟨A0, c0, rfl, r0.below hb⟩
theorem wpList_litW2 (hL : AllK w L) (hB : Below W0.heap.size W0 w) (hg : Region.wanted o (yielded ops a.tmps) = true) (o0 o1 : Operand) (hop : o.op = .buildSlice 22 2 #[(0, o0), (1, o1)]) {A0 A1 : Option Addr} {n0 c0 n1 c1 : Nat} {x0 x1 : List Int} (h0 : a.eval o0 = .slice A0 n0 c0) (h1 : a.eval o1 = .slice A1 n1 c1) (r0 : Rd w A0 x0) (r1 : Rd w A1 x1) (l0 : x0.length = n0) (l1 : x1.length = n1)
    (hK : ∀ w', AllK w' (kRdS (some ⟨w.heap.size, 0, none⟩) [x0, x1] :: L) → Below W0.heap.size W0 w' → wpList Try.prog ops Q rest (a.put o.dst (.slice (some ⟨w.heap.size, 0, none⟩) 2 2)) w') : wpList Try.prog ops Q (o :: rest) a w := by
  subst l0 l1
  refine wpList_step fun K hK' => ?_
  rw [if_pos hg]
  have hb : Below w.heap.size w (w.alloc (.cells #[.slice A0 x0.length c0, .slice A1 x1.length c1] 23)) := (Below.refl _ _).alloc (Nat.le_refl _) _
  unfold Oper.wp
  simp only [execOp, hop, List.map_toArray, List.map_cons, List.map_nil, h0, h1]
  simp [go_sem]
  refine hK' _ _ (hK _ ((hL.next hb).put (P := kRdS _ _) (rds_lit (vs := [.slice A0 x0.length c0, .slice A1 x1.length c1]) (heap_alloc_new w _) fun k hk => ?_)) (below_next hB hb))
  match k, hk with
  | 0, _ => exact ⟨A0, c0, rfl, r0.below hb⟩
  | 1, _ => exact ⟨A1, c1, rfl, r1.below hb⟩
theorem wpList_litW3 (hL : AllK w L) (hB : Below W0.heap.size W0 w) (hg : Region.wanted o (yielded ops a.tmps) = true) (o0 o1 o2 : Operand) (hop : o.op = .buildSlice 22 3 #[(0, o0), (1, o1), (2, o2)]) {A0 A1 A2 : Option Addr} {n0 c0 n1 c1 n2 c2 : Nat} {x0 x1 x2 : List Int} (h0 : a.eval o0 = .slice A0 n0 c0) (h1 : a.eval o1 = .slice A1 n1 c1) (h2 : a.eval o2 = .slice A2 n2 c2) (r0 : Rd w A0 x0) (r1 : Rd w A1 x1) (r2 : Rd w A2 x2) (l0 : x0.length = n0) (l1 : x1.length = n1) (l2 : x2.length = n2)
    (hK : ∀ w', AllK w' (kRdS (some ⟨w.heap.size, 0, none⟩) [x0, x1, x2] :: L) → Below W0.heap.size W0 w' → wpList Try.prog ops Q rest (a.put o.dst (.slice (some ⟨w.heap.size, 0, none⟩) 3 3)) w') : wpList Try.prog ops Q (o :: rest) a w := by
  subst l0 l1 l2
  refine wpList_step fun K hK' => ?_
  rw [if_pos hg]
  have hb : Below w.heap.size w (w.alloc (.cells #[.slice A0 x0.length c0, .slice A1 x1.length c1, .slice A2 x2.length c2] 23)) := (Below.refl _ _).alloc (Nat.le_refl _) _
  unfold Oper.wp
  simp only [execOp, hop, List.map_toArray, List.map_cons, List.map_nil, h0, h1, h2]
  simp [go_sem]
  refine hK' _ _ (hK _ ((hL.next hb).put (P := kRdS _ _) (rds_lit (vs := [.slice A0 x0.length c0, .slice A1 x1.length c1, .slice A2 x2.length c2]) (heap_alloc_new w _) fun k hk => ?_)) (below_next hB hb))
  match k, hk with
  | 0, _ => exact ⟨A0, c0, rfl, r0.below hb⟩
  | 1, _ => exact ⟨A1, c1, rfl, r1.below hb⟩
  | 2, _ => exact ⟨A2, c2, rfl, r2.below hb⟩
theorem wpList_litW4 (hL : AllK w L) (hB : Below W0.heap.size W0 w) (hg : Region.wanted o (yielded ops a.tmps) = true) (o0 o1 o2 o3 : Operand) (hop : o.op = .buildSlice 22 4 #[(0, o0), (1, o1), (2, o2), (3, o3)]) {A0 A1 A2 A3 : Option Addr} {n0 c0 n1 c1 n2 c2 n3 c3 : Nat} {x0 x1 x2 x3 : List Int} (h0 : a.eval o0 = .slice A0 n0 c0) (h1 : a.eval o1 = .slice A1 n1 c1) (h2 : a.eval o2 = .slice A2 n2 c2) (h3 : a.eval o3 = .slice A3 n3 c3) (r0 : Rd w A0 x0) (r1 : Rd w A1 x1) (r2 : Rd w A2 x2) (r3 : Rd w A3 x3) (l0 : x0.length = n0) (l1 : x1.length = n1) (l2 : x2.length = n2) (l3 : x3.length = n3)
    (hK : ∀ w', AllK w' (kRdS (some ⟨w.heap.size, 0, none⟩) [x0, x1, x2, x3] :: L) → Below W0.heap.size W0 w' → wpList Try.prog ops Q rest (a.put o.dst (.slice (some ⟨w.heap.size, 0, none⟩) 4 4)) w') : wpList Try.prog ops Q (o :: rest) a w := by
  subst l0 l1 l2 l3
  refine wpList_step fun K hK' => ?_
  rw [if_pos hg]
  have hb : Below w.heap.size w (w.alloc (.cells #[.slice A0 x0.length c0, .slice A1 x1.length c1, .slice A2 x2.length c2, .slice A3 x3.length c3] 23)) := (Below.refl _ _).alloc (Nat.le_refl _) _
  unfold Oper.wp
  simp only [execOp, hop, List.map_toArray, List.map_cons, List.map_nil, h0, h1, h2, h3]
  simp [go_sem]
  refine hK' _ _ (hK _ ((hL.next hb).put (P := kRdS _ _) (rds_lit (vs := [.slice A0 x0.length c0, .slice A1 x1.length c1, .slice A2 x2.length c2, .slice A3 x3.length c3]) (heap_alloc_new w _) fun k hk => ?_)) (below_next hB hb))
  match k, hk with
  | 0, _ => exact ⟨A0, c0, rfl, r0.below hb⟩
  | 1, _ => exact ⟨A1, c1, rfl, r1.below hb⟩
  | 2, _ => exact ⟨A2, c2, rfl, r2.below hb⟩
  | 3, _ => exact ⟨A3, c3, rfl, r3.below hb⟩
/-- Four nodes. -/
theorem wpList_litN4 (hL : AllK w L) (hB : Below W0.heap.size W0 w) (hg : Region.wanted o (yielded ops a.tmps) = true) (o0 o1 o2 o3 : Operand) (hop : o.op = .buildSlice 54 4 #[(0, o0), (1, o1), (2, o2), (3, o3)]) {A0 A1 A2 A3 : Option Addr} {n0 c0 n1 c1 n2 c2 n3 c3 : Nat} {e0 e1 e2 e3 : Bool} {x0 x1 x2 x3 : List Int} (h0 : a.eval o0 = .agg #[.slice A0 n0 c0, .bool e0]) (h1 : a.eval o1 = .agg #[.slice A1 n1 c1, .bool e1]) (h2 : a.eval o2 = .agg #[.slice A2 n2 c2, .bool e2]) (h3 : a.eval o3 = .agg #[.slice A3 n3 c3, .bool e3]) (r0 : Rd w A0 x0) (r1 : Rd w A1 x1) (r2 : Rd w A2 x2) (r3 : Rd w A3 x3) (l0 : x0.length = n0) (l1 : x1.length = n1) (l2 : x2.length = n2) (l3 : x3.length = n3)
    (hK : ∀ w', AllK w' (kRdN (some ⟨w.heap.size, 0, none⟩) [(x0, e0), (x1, e1), (x2, e2), (x3, e3)] :: L) → Below W0.heap.size W0 w' → wpList Try.prog ops Q rest (a.put o.dst (.slice (some ⟨w.heap.size, 0, none⟩) 4 4)) w') : wpList Try.prog ops Q (o :: rest) a w := by
  subst l0 l1 l2 l3
  refine wpList_step fun K hK' => ?_
  rw [if_pos hg]
  have hb : Below w.heap.size w (w.alloc (.cells #[.slice A0 x0.length c0, .bool e0, .slice A1 x1.length c1, .bool e1, .slice A2 x2.length c2, .bool e2, .slice A3 x3.length c3, .bool e3] 64)) := (Below.refl _ _).alloc (Nat.le_refl _) _
  have hg2 := heap_alloc_new w (.cells #[.slice A0 x0.length c0, .bool e0, .slice A1 x1.length c1, .bool e1, .slice A2 x2.length c2, .bool e2, .slice A3 x3.length c3, .bool e3] 64)
  unfold Oper.wp
  simp only [execOp, hop, List.map_toArray, List.map_cons, List.map_nil, h0, h1, h2, h3]
  simp [go_sem]
  refine hK' _ _ (hK _ ((hL.next hb).put (P := kRdN _ _) fun _ => ⟨_, 0, rfl, heap_ltT hg2, fun k x hx => ?_⟩) (below_next hB hb))
  have cc : ∀ j v, [Value.slice A0 x0.length c0, .bool e0, .slice A1 x1.length c1, .bool e1, .slice A2 x2.length c2, .bool e2, .slice A3 x3.length c3, .bool e3][j]? = some v → (w.alloc (.cells #[.slice A0 x0.length c0, .bool e0, .slice A1 x1.length c1, .bool e1, .slice A2 x2.length c2, .bool e2, .slice A3 x3.length c3, .bool e3] 64)).cell? ⟨w.heap.size, j, none⟩ = some v := fun j v hj => by
    rw [cell_of_row _ _ _ _ _ _ hg2]
    simpa using hj
  have hk : k < 4 := (List.getElem?_eq_some_iff.1 hx).1
  rcases (by omega : k = 0 ∨ k = 1 ∨ k = 2 ∨ k = 3) with rfl | rfl | rfl | rfl
  · injection hx with hx; subst hx; exact ⟨A0, c0, cc 0 _ rfl, cc 1 _ rfl, r0.below hb⟩
  · injection hx with hx; subst hx; exact ⟨A1, c1, cc 2 _ rfl, cc 3 _ rfl, r1.below hb⟩
  · injection hx with hx; subst hx; exact ⟨A2, c2, cc 4 _ rfl, cc 5 _ rfl, r2.below hb⟩
  · injection hx with hx; subst hx; exact ⟨A3, c3, cc 6 _ rfl, cc 7 _ rfl, r3.below hb⟩
end
/-! ### A list of words, block by block -/
def chW : World → List (Option (List Int)) → World
  | w, [] => w
  | w, none :: l => chW w l
  | w, some x :: l => chW (w.alloc (.cells (ints x).toArray 3)) l
def chN : Nat → List (Option (List Int)) → Nat
  | n, [] => n
  | n, none :: l => chN n l
  | n, some _ :: l => chN (n + 1) l
def chV : Nat → List (Option (List Int)) → List Value
  | _, [] => []
  | n, none :: l => .slice none 0 0 :: chV n l
  | n, some x :: l => .slice (some ⟨n, 0, none⟩) x.length x.length :: chV (n + 1) l
theorem chW_below : ∀ (l : List (Option (List Int))) (w : World), Below w.heap.size w (chW w l) ∧ (chW w l).heap.size = chN w.heap.size l
  | [], w => ⟨Below.refl _ _, rfl⟩
  | none :: l, w => chW_below l w
  | some x :: l, w => by
    have h := chW_below l (w.alloc (.cells (ints x).toArray 3))
    have hb : Below w.heap.size w (w.alloc (.cells (ints x).toArray 3)) := (Below.refl _ _).alloc (Nat.le_refl _) _
    refine ⟨below_next hb h.1, ?_⟩
    show (chW (w.alloc (.cells (ints x).toArray 3)) l).heap.size = chN (w.heap.size + 1) l
    rw [h.2, World.size_alloc]
theorem chV_at : ∀ (l : List (Option (List Int))) (w : World) (k : Nat), k < l.length → ∃ A c, (chV w.heap.size l)[k]? = some (.slice A (M.row (l.map fun o => o.getD []) k).length c) ∧ Rd (chW w l) A (M.row (l.map fun o => o.getD []) k)
  | [], w, k, h => by simp at h
  | none :: l, w, 0, _ => ⟨none, 0, rfl, rd_none _⟩
  | none :: l, w, k + 1, h => by
    rw [List.map_cons, M.row_cons]
    exact chV_at l w k (by simpa using h)
  | some x :: l, w, 0, _ => ⟨some ⟨w.heap.size, 0, none⟩, x.length, rfl, (Rd.of_block (t := 3) (zs := x) (heap_alloc_new w _)).below (chW_below l (w.alloc (.cells (ints x).toArray 3))).1⟩
  | some x :: l, w, k + 1, h => by
    have h1 := chV_at l (w.alloc (.cells (ints x).toArray 3)) k (by simpa using h)
    rw [List.map_cons, M.row_cons]
    rw [World.size_alloc] at h1
    exact h1
theorem ch_rds (w : World) (l : List (Option (List Int))) : RdS ((chW w l).alloc (.cells (chV w.heap.size l).toArray 23)) (some ⟨chN w.heap.size l, 0, none⟩) (l.map fun o => o.getD []) ∧ Below w.heap.size w ((chW w l).alloc (.cells (chV w.heap.size l).toArray 23)) := by
  have hb := chW_below l w
  have hb2 : Below (chW w l).heap.size (chW w l) ((chW w l).alloc (.cells (chV w.heap.size l).toArray 23)) := (Below.refl _ _).alloc (Nat.le_refl _) _
  refine ⟨?_, below_next hb.1 hb2⟩
  rw [← hb.2]
  refine rds_lit (heap_alloc_new _ _) fun k hk => ?_
  obtain ⟨A, c, h1, h2⟩ := chV_at l w k (by simpa using hk)
  exact ⟨A, c, h1, h2.below hb2⟩
end Go.Proofs.Ytjodhihcckcefaa
