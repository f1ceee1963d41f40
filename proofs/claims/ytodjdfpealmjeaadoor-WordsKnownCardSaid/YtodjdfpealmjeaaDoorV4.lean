/-
  The walk of the helper WordsAll.
-/
import Derived.Test.YtodjdfpealmjeaaDoorV3
import Derived.Test.YtodjdfpealmjeaaDoorL7
namespace Go.Proofs.YtodjdfpealmjeaaDoor
open Go.RowKit Go.Shelf
attribute [local go_sem] Oper.semAt_some

/-- Next of a word: in a block of its own. -/
theorem next_blk (A : Option Addr) (c : Nat) (zs : List Int) (n : Int) (w : World) (h : Rd w A zs) (hck : M.check zs n = 0) (hl : (M.next n zs).length ≤ 256) :
    Calls Tryd.prog 16 #[.slice A zs.length c, .int .i64 n] w fun e w' => ∃ g, e = .returned (.tuple #[.slice (some ⟨g, 0, none⟩) (M.next n zs).length (M.next n zs).length, .int .i64 0]) ∧ w.heap.size ≤ g ∧ Blk w' g (M.next n zs) ∧ Below w.heap.size w w' := by
  have HC := Lib.hid hck
  obtain ⟨hn1, hn2, hl2, hv⟩ := M.check_zero hck
  clear hck
  go_enter Tryd.func16, Tryd.ntmps16
  go_wp2_with fail
  refine (check_any _ _ _ _ _ h).mono ?_
  rintro e w1 ⟨rfl, hb1⟩
  rw [HC.out]
  go_wp2_with fail
  refine (follow_blk _ _ _ _ _ (h.below hb1) (by omega) hn2 hn1 hv).mono ?_
  rintro e w2 ⟨g, rfl, hg, hr2, hb2⟩
  go_wp2
  go_ret2
  exact ⟨g, rfl, by have := hb1.size; omega, hr2, below_next hb1 hb2⟩

theorem Cells.heap {B : Nat} {W W' : World} (h : Cells B W W') {b o : Nat} {v : Value} (hc : W.cell? ⟨b, o, none⟩ = some v) : W'.heap[b]? = W.heap[b]? := by
  have hx : ∃ x, W.heap[b]? = some x ∧ x.isCells = true := by
    unfold World.cell? at hc
    cases hx : W.heap[b]? with
    | none => simp [hx] at hc
    | some x => exact ⟨x, rfl, by cases x <;> simp_all [Obj.isCells]⟩
  obtain ⟨x, hx, hcx⟩ := hx
  rw [hx]
  exact h.same b x hx hcx
theorem Cells.cell {B : Nat} {W W' : World} (h : Cells B W W') {b o : Nat} {v : Value} (hc : W.cell? ⟨b, o, none⟩ = some v) : W'.cell? ⟨b, o, none⟩ = some v :=
  (World.cell?_of_block (w := W) (a := ⟨b, o, none⟩) (h.heap hc)).trans hc
theorem Cells.frozen {B : Nat} {W W' : World} (h : Cells B W W') {b o : Nat} {v : Value} (hc : W.cell? ⟨b, o, none⟩ = some v) : W'.frozen? ⟨b, o, none⟩ = W.frozen? ⟨b, o, none⟩ :=
  World.frozen?_of_block (w := W) (a := ⟨b, o, none⟩) (h.heap hc)
theorem Cells.below {B : Nat} {w W W' : World} (h : Cells B W W') {C : Nat} (hC : C ≤ B) (hb : Below C w W) : Below C w W' :=
  ⟨h.os.trans hb.os, h.tape.trans hb.tape, h.output.trans hb.output, Nat.le_trans hb.size h.size, fun k hk => (h.block k (by omega)).trans (hb.block k hk)⟩

/-- A box: what it holds, and that it may be written. -/
def Box (W : World) (b : Nat) (v : Value) : Prop := W.cell? ⟨b, 0, none⟩ = some v ∧ W.frozen? ⟨b, 0, none⟩ = false
theorem Box.cells {B : Nat} {W W' : World} {b : Nat} {v : Value} (h : Box W b v) (k : Cells B W W') : Box W' b v := ⟨k.cell h.1, (k.frozen h.1).trans h.2⟩
theorem Box.lt {W : World} {b : Nat} {v : Value} (h : Box W b v) : b < W.heap.size := by
  rcases Nat.lt_or_ge b W.heap.size with h1 | h1
  · exact h1
  · have := h.1
    unfold World.cell? at this
    rw [show W.heap[b]? = none from Array.getElem?_eq_none h1] at this
    cases this
theorem Box.below {W W' : World} {b : Nat} {v : Value} (h : Box W b v) (k : Below W.heap.size W W') : Box W' b v := h.cells (Cells.of_below k (Nat.le_refl _))
theorem Box.new (W : World) (v : Value) (t : TypeId) : Box (W.alloc (.cells #[v] t)) W.heap.size v := by
  constructor
  · rw [World.cell?_alloc_at _ _ _ _ rfl]; rfl
  · simp
theorem Box.set_ {W : World} {b : Nat} {v : Value} (h : Box W b v) (u : Value) : Box (W.setCell ⟨b, 0, none⟩ u) b u :=
  ⟨World.cell?_setCell_same' _ _ _ (by rw [h.1]; rfl), by rw [World.frozen?_setCell]; exact h.2⟩
theorem Box.far {W : World} {b c : Nat} {v : Value} (h : Box W b v) (hne : b ≠ c) (u : Value) : Box (W.setCell ⟨c, 0, none⟩ u) b v :=
  ⟨(World.cell?_of_block (w := W) (a := ⟨b, 0, none⟩) (Below.heap_setCell W ⟨c, 0, none⟩ u b hne)).trans h.1, (World.frozen?_of_block (w := W) (a := ⟨b, 0, none⟩) (Below.heap_setCell W ⟨c, 0, none⟩ u b hne)).trans h.2⟩

theorem Box.alloc {W : World} {b : Nat} {v : Value} (h : Box W b v) (o : Obj) : Box (W.alloc o) b v := h.below ((Below.refl _ _).alloc (Nat.le_refl _) _)
theorem Box.new_ {W : World} {b : Nat} (h : W.heap.size = b) (v : Value) (t : TypeId) : Box (W.alloc (.cells #[v] t)) b v := h ▸ Box.new W v t
theorem Below.more {B : Nat} {w W : World} (h : Below B w W) (hB : B ≤ W.heap.size) (o : Obj) : Below B w (W.alloc o) := h.alloc hB o

/-- The boxes of WordsAll between two rounds. -/
structure Bx (w : World) (n most many : Int) (a0 a1 a2 a3 ak aw : Nat) (k : Nat) (W : World) : Prop where
  b0 : Box W a0 (.int .i64 n)
  b1 : Box W a1 (.int .i64 most)
  b2 : Box W a2 (.int .u8 many)
  b3 : ∃ v, Box W a3 v
  bk : Box W ak (.int .i64 k)
  bw : ∃ B c, Box W aw (.slice B (M.word n k).length c) ∧ Own2 ak aw W B (M.word n k)
  bel : Below w.heap.size w W
theorem Bx.cells {w : World} {n most many : Int} {a0 a1 a2 a3 ak aw : Nat} {k B : Nat} {W W' : World} (h : Bx w n most many a0 a1 a2 a3 ak aw k W) (hB : w.heap.size ≤ B) (c : Cells B W W') : Bx w n most many a0 a1 a2 a3 ak aw k W' := by
  obtain ⟨h0, h1, h2, ⟨v, h3⟩, hk, ⟨C, d, hw, ho⟩, hb⟩ := h
  exact ⟨h0.cells c, h1.cells c, h2.cells c, ⟨v, h3.cells c⟩, hk.cells c, ⟨C, d, hw.cells c, ho.keep (KC.of_cells c)⟩, c.below hB hb⟩
theorem Bx.below {w : World} {n most many : Int} {a0 a1 a2 a3 ak aw : Nat} {k : Nat} {W W' : World} (h : Bx w n most many a0 a1 a2 a3 ak aw k W) (c : Below W.heap.size W W') : Bx w n most many a0 a1 a2 a3 ak aw k W' :=
  h.cells (B := W.heap.size) h.bel.size (Cells.of_below c (Nat.le_refl _))

theorem same_self (A B : Option Addr) (m c d : Nat) (x : List Int) (w : World) (hx : Rd w A x) (hy : Rd w B x) (hm : x.length = m) (hb : m ≤ 1000) :
    Calls Tryd.prog 26 #[.slice A m c, .slice B m d] w fun e w' => e = .returned (.bool true) ∧ Below w.heap.size w w' := by
  subst hm
  have := same_any A B c d x x w hx hy (by omega)
  rwa [M.same_yes rfl] at this

/-- How many words there are, counted by length. -/
def M.st (n : Int) : Nat → Int × Int
  | 0 => (0, 1)
  | i + 1 => ((M.st n i).1 + (M.st n i).2, min ((M.st n i).2 * n) 1000)

section
variable {P : Program} {t : TypeId}
theorem hlt' {W : World} {b : Nat} {o : Obj} (h : W.heap[b]? = some o) : b < W.heap.size := hlt h
theorem run_equalIn_fn (w : World) (d : Nat) (f : Fn) (xs ys : Array Value) {a b : Array TypeId} {c : Bool} (h : P.underlying t = some (.func a b c)) : (Op.equalIn (d + 1) t (.func f xs ys) .nilFunc).run P w = .ok false w := by
  simp [Op.equalIn, run_underlying h]
theorem run_equal_fn (w : World) (f : Fn) (xs ys : Array Value) {a b : Array TypeId} {c : Bool} (h : P.underlying t = some (.func a b c)) : (Op.equal t (.func f xs ys) .nilFunc).run P w = .ok false w := run_equalIn_fn w 9999 f xs ys h
theorem run_eql_fn' (w : World) (f : Fn) (xs ys : Array Value) {a b : Array TypeId} {c : Bool} (h : P.underlying t = some (.func a b c)) : (binOp .eql t (.func f xs ys) .nilFunc).run P w = .ok (.bool false) w := by
  simp only [binOp]
  simp [run_equal_fn w f xs ys h]
theorem of_fn {u : Option TypeDesc} (h : (match u with | some (.func _ _ _) => true | _ => false) = true) : ∃ a b c, u = some (.func a b c) := by
  split at h
  · exact ⟨_, _, _, rfl⟩
  · cases h
end
/-- A function's value is not nil. -/
theorem run_eql_fn (f : Fn) (xs ys : Array Value) (w : World) : (binOp .eql 63 (.func f xs ys) .nilFunc).run Tryd.prog w = .ok (.bool false) w := by
  obtain ⟨a, b, c, h⟩ := of_fn (u := Tryd.prog.underlying 63) (by kernel_rfl)
  exact run_eql_fn' w f xs ys h

set_option maxRecDepth 100000 in
set_option maxHeartbeats 6400000 in
theorem wordsAll_in (n most many : Int) (N K i0 : Nat) (w : World) (he : Env w) (hn1 : 1 ≤ n) (hn2 : n ≤ 16) (hm1 : 0 ≤ most) (hm2 : most ≤ 256) (hu0 : 0 ≤ many) (hu1 : many ≤ 255)
    (hK : (K : Int) = many % 200 + 1) (hN : ∀ j, j < N → ((M.word n j).length : Int) ≤ most) (hE : most < ((M.word n N).length : Int)) (hX : ∀ j, j < N → j < K → (M.word n (j + 1)).length ≤ 256)
    (hc : ∀ j, j < i0 → (j : Int) ≤ most ∧ (M.st n j).1 ≤ 200 ∧ 0 ≤ (M.st n j).1 ∧ 0 ≤ (M.st n j).2 ∧ (M.st n j).2 ≤ 1000) (hs : ¬ (i0 : Int) ≤ most ∨ ¬ (M.st n i0).1 ≤ 200) (hC : min (M.st n i0).1 K = min N K) (hi0 : i0 ≤ 300) :
    Calls Tryd.prog 32 #[.int .i64 n, .int .i64 most, .int .u8 many] w fun e w' => e = .returned (.bool true) ∧ Below w.heap.size w w' := by
  have HE := Lib.hid hE
  have HN := Lib.hid hN
  have HX := Lib.hid hX
  have HC := Lib.hid hc
  have HS := Lib.hid hs
  have HM := Lib.hid hC
  have HK := Lib.hid hK
  clear hE hN hX hc hs hC hK
  obtain ⟨m, _⟩ : ∃ m : Nat, True := ⟨3, trivial⟩
  refine (callsIn_wide (n := m)).1 ?_
  refine callsIn_of_wp_marks Tryd.func32 rfl trivial ?_
  simp only [Tryd.ntmps32, List.size_toArray, List.length_cons, List.length_nil, Nat.reduceAdd, Nat.reduceSub, Array.replicate_succ, Array.replicate_zero, List.push_toArray, List.append_toArray, List.nil_append, List.cons_append]
  gi_wp2_with fail
  refine wide_calls (all_any _ _ _) ?_
  rintro e w1 ⟨rfl, rfl⟩
  have HF := fun f xs ys w => run_eql_fn f xs ys w
  gi_wp2_with fail
  obtain ⟨W0, hW0⟩ : ∃ W0, (((((((((w.alloc (Obj.cells #[Value.int IntKind.i64 n] 3)).alloc (Obj.cells #[Value.int IntKind.i64 most] 3)).alloc (Obj.cells #[Value.int IntKind.u8 many] 5)).alloc (Obj.cells #[Value.bool false] 4)).alloc
    (Obj.cells #[Value.int IntKind.i64 n] 3)).alloc (Obj.cells #[Value.int IntKind.i64 most] 3)).alloc (Obj.cells #[Value.int IntKind.i64 0] 3)).alloc (Obj.cells #[] 3)).alloc
    (Obj.cells #[Value.slice (some { block := w.heap.size + 1 + 1 + 1 + 1 + 1 + 1 + 1, off := 0 }) 0 0] 22)) = W0 := ⟨_, rfl⟩
  rw [hW0]
  have x0 : Box W0 w.heap.size (.int .i64 n) := by rw [← hW0]; exact (((((((((Box.new w _ _).alloc _).alloc _).alloc _).alloc _).alloc _).alloc _).alloc _).alloc _)
  have x1 : Box W0 (w.heap.size + 1) (.int .i64 most) := by rw [← hW0]; exact ((((((((Box.new_ (by simp) _ _).alloc _).alloc _).alloc _).alloc _).alloc _).alloc _).alloc _)
  have x2 : Box W0 (w.heap.size + 1 + 1) (.int .u8 many) := by rw [← hW0]; exact (((((((Box.new_ (by simp) _ _).alloc _).alloc _).alloc _).alloc _).alloc _).alloc _)
  have x3 : Box W0 (w.heap.size + 1 + 1 + 1) (.bool false) := by rw [← hW0]; exact ((((((Box.new_ (by simp) _ _).alloc _).alloc _).alloc _).alloc _).alloc _)
  have x4 : Box W0 (w.heap.size + 1 + 1 + 1 + 1) (.int .i64 n) := by rw [← hW0]; exact (((((Box.new_ (by simp) _ _).alloc _).alloc _).alloc _).alloc _)
  have x5 : Box W0 (w.heap.size + 1 + 1 + 1 + 1 + 1) (.int .i64 most) := by rw [← hW0]; exact ((((Box.new_ (by simp) _ _).alloc _).alloc _).alloc _)
  have x6 : Box W0 (w.heap.size + 1 + 1 + 1 + 1 + 1 + 1) (.int .i64 0) := by rw [← hW0]; exact (((Box.new_ (by simp) _ _).alloc _).alloc _)
  have x8 : Box W0 (w.heap.size + 1 + 1 + 1 + 1 + 1 + 1 + 1 + 1) (.slice (some { block := w.heap.size + 1 + 1 + 1 + 1 + 1 + 1 + 1, off := 0 }) 0 0) := by rw [← hW0]; exact Box.new_ (by simp) _ _
  have xs : W0.heap.size = w.heap.size + 9 := by rw [← hW0]; simp
  have xb : Below w.heap.size w W0 := by
    rw [← hW0]
    refine Below.more (Below.more (Below.more (Below.more (Below.more (Below.more (Below.more (Below.more (Below.more (Below.refl _ _) ?_ _) ?_ _) ?_ _) ?_ _) ?_ _) ?_ _) ?_ _) ?_ _) ?_ _
    all_goals first | exact Nat.le_refl _ | (simp only [World.size_alloc]; omega)
  clear hW0
  obtain ⟨q1, hq1⟩ : ∃ q, w.heap.size + 1 = q := ⟨_, rfl⟩
  rw [hq1] at x1 x2 x3 x4 x5 x6 x8 ⊢
  obtain ⟨q2, hq2⟩ : ∃ q, q1 + 1 = q := ⟨_, rfl⟩
  rw [hq2] at x2 x3 x4 x5 x6 x8 ⊢
  obtain ⟨q3, hq3⟩ : ∃ q, q2 + 1 = q := ⟨_, rfl⟩
  rw [hq3] at x3 x4 x5 x6 x8 ⊢
  obtain ⟨q4, hq4⟩ : ∃ q, q3 + 1 = q := ⟨_, rfl⟩
  rw [hq4] at x4 x5 x6 x8 ⊢
  obtain ⟨q5, hq5⟩ : ∃ q, q4 + 1 = q := ⟨_, rfl⟩
  rw [hq5] at x5 x6 x8 ⊢
  obtain ⟨q6, hq6⟩ : ∃ q, q5 + 1 = q := ⟨_, rfl⟩
  rw [hq6] at x6 x8 ⊢
  obtain ⟨q7, hq7⟩ : ∃ q, q6 + 1 = q := ⟨_, rfl⟩
  rw [hq7] at x8 ⊢
  obtain ⟨q8, hq8⟩ : ∃ q, q7 + 1 = q := ⟨_, rfl⟩
  rw [hq8] at x8 ⊢
  obtain ⟨q0, hq0⟩ : ∃ q, w.heap.size = q := ⟨_, rfl⟩
  rw [hq0] at x0 hq1 ⊢
  have HQ := Lib.hid (And.intro hq0 (And.intro hq1 (And.intro hq2 (And.intro hq3 (And.intro hq4 (And.intro hq5 (And.intro hq6 (And.intro hq7 (And.intro hq8 xs)))))))))
  have hK1 : 1 ≤ K := by have := HK.out; omega
  have hX0 : Bx w n most many q0 q1 q2 q3 q6 q8 0 W0 := ⟨x0, x1, x2, ⟨_, x3⟩, x6, ⟨_, _, x8, fun h => absurd h (by simp [M.word])⟩, xb⟩
  have hG := all1_gives (m - 1) q4 q5 q6 q8 N n most W0 x4.1 x5.1 (by omega) (by omega) (by omega) (by omega) (by omega) (by omega) (by omega) (by omega) hn1 hn2 hm1 hm2 HN.out HE.out
  clear x0 x1 x2 x3 x4 x5 x6 x8 hq0 hq1 hq2 hq3 hq4 hq5 hq6 hq7 hq8 xs xb
  refine range_words (m := m) 50 _ rfl (enters_of Tryd.func50 (by kernel_rfl) rfl) n N q6 q8 (by have := HQ.out; omega) (by have := HQ.out; omega) hG
    (fun k W => Bx w n most many q0 q1 q2 q3 q6 q8 k W ∧ k < K) (fun W => Bx w n most many q0 q1 q2 q3 q6 q8 K W ∧ K ≤ N)
    (fun k A B h c => ⟨h.1.cells (by have := HQ.out; omega) c, h.2⟩) (fun A B h c => ⟨h.1.cells (by have := HQ.out; omega) c, h.2⟩) ⟨hX0, hK1⟩ ?ax ?assign ?body ?done ?stop
  case assign =>
    intro l k A W K hK
    gi_wp2
    exact hK
  case body =>
    intro l k A W hk ⟨hB, hkK⟩ ho
    obtain ⟨h0, h1, h2, ⟨v3, h3⟩, hk6, ⟨B, c, hw8, ho8⟩, hbel⟩ := hB
    obtain ⟨zs, hzs⟩ : ∃ zs, M.word n k = zs := ⟨_, rfl⟩
    have HZ := Lib.hid hzs
    obtain ⟨vz, _⟩ := word_val hn1 k
    have hle : (zs.length : Int) ≤ most := by rw [← hzs]; exact HN.out k hk
    have hnl : (M.next n zs).length ≤ 256 := by rw [← hzs]; exact HX.out k hk hkK
    rw [hzs] at ho hw8 ho8 vz
    rw [hzs]
    clear hzs
    have hck := Lib.hid (M.check_mk hn2 hn1 (zs := zs) (by omega) vz)
    have NL := Lib.hid hnl
    clear hnl vz
    have RA := Lib.hid ho.rd
    have RB := Lib.hid ho8.rd
    clear ho ho8
    have hlen : zs.length ≤ 256 := by omega
    have e0 := h0.1
    have e1 := h1.1
    have e8 := hw8.1
    gi_wp2_with fail
    refine round_calls (l := l) (same_self A B zs.length zs.length c zs W RA.out RB.out rfl (by omega)) ?_
    rintro e w1 ⟨rfl, hb1⟩
    clear e0 e1 e8
    have hk1 : KA q6 q8 W w1 := KA.of_below hb1
    replace h0 := h0.below hb1
    replace h1 := h1.below hb1
    replace h2 := h2.below hb1
    replace h3 := h3.below hb1
    replace hk6 := hk6.below hb1
    replace hw8 := hw8.below hb1
    replace hbel := below_next hbel hb1
    replace RA := Lib.hid (RA.out.below hb1)
    clear hb1 RB
    have e0 := h0.1
    gi_wp2_with fail
    refine round_calls (l := l) (next_blk A zs.length zs n w1 RA.out hck.out NL.out) ?_
    rintro e w2 ⟨g, rfl, hg, hbk, hb2⟩
    clear e0
    have hk2 := hk1.trans (KA.of_below hb2)
    have hg6 : g ≠ q6 := by have := hk6.lt; omega
    have hg8 : g ≠ q8 := by have := hw8.lt; omega
    replace h0 := h0.below hb2
    replace h1 := h1.below hb2
    replace h2 := h2.below hb2
    replace h3 := h3.below hb2
    replace hk6 := hk6.below hb2
    replace hw8 := hw8.below hb2
    replace hbel := below_next hbel hb2
    clear hb2 hk1
    have e2 := h2.1
    have e6 := hk6.1
    have e8 := hw8.1
    have f6 := hk6.2
    have f8 := hw8.2
    have n68 : q6 ≠ q8 := by have := HQ.out; omega
    have n26 : q2 ≠ q6 := by have := HQ.out; omega
    have n28 : q2 ≠ q8 := by have := HQ.out; omega
    have e6 := (hk6.far n68 (.slice (some ⟨g, 0, none⟩) (M.next n zs).length (M.next n zs).length)).1
    have e26 := fun u => ((h2.far n28 (.slice (some ⟨g, 0, none⟩) (M.next n zs).length (M.next n zs).length)).far n26 u).1
    have kk : (k : Int) ≤ 300 := by have := HK.out; omega
    have BX : Bx w n most many q0 q1 q2 q3 q6 q8 (k + 1) ((w2.setCell ⟨q8, 0, none⟩ (.slice (some ⟨g, 0, none⟩) (M.next n zs).length (M.next n zs).length)).setCell ⟨q6, 0, none⟩ (.int .i64 ((k : Int) + 1))) := by
      obtain ⟨y0, y1, y2, y3, y4, y5, y6, y7, y8, ys⟩ := HQ.out
      have hnx : M.word n (k + 1) = M.next n zs := by rw [M.word, HZ.out]
      refine ⟨(h0.far (by omega) _).far (by omega) _, (h1.far (by omega) _).far (by omega) _, (h2.far (by omega) _).far (by omega) _, ⟨_, (h3.far (by omega) _).far (by omega) _⟩, ?_, ?_, ?_⟩
      · have := (hk6.far n68 (.slice (some ⟨g, 0, none⟩) (M.next n zs).length (M.next n zs).length)).set_ (.int .i64 ((k : Int) + 1))
        simpa using this
      · refine ⟨some ⟨g, 0, none⟩, (M.next n zs).length, ?_, fun _ => ⟨g, rfl, hg6, hg8, ?_⟩⟩
        · rw [hnx]
          exact (hw8.set_ _).far (by omega) _
        · rw [hnx]
          exact (Below.heap_setCell _ ⟨q6, 0, none⟩ _ g hg6).trans ((Below.heap_setCell _ ⟨q8, 0, none⟩ _ g hg8).trans hbk)
      · exact (hbel.setCell (p := ⟨q8, 0, none⟩) (by show w.heap.size ≤ q8; omega) _).setCell (p := ⟨q6, 0, none⟩) (by show w.heap.size ≤ q6; omega) _
    have KX : KA q6 q8 W ((w2.setCell ⟨q8, 0, none⟩ (.slice (some ⟨g, 0, none⟩) (M.next n zs).length (M.next n zs).length)).setCell ⟨q6, 0, none⟩ (.int .i64 ((k : Int) + 1))) :=
      (hk2.trans (KA.set _ (.inr rfl) _)).trans (KA.set _ (.inl rfl) _)
    clear h0 h1 h2 h3 hk6 hw8 hbel hbk hk2 hg RA
    by_cases hl : many % 200 < (k : Int) + 1
    · have hKk : K = k + 1 := by have := HK.out; omega
      have R : roundP q6 q8 (fun k W => Bx w n most many q0 q1 q2 q3 q6 q8 k W ∧ k < K) (fun W => Bx w n most many q0 q1 q2 q3 q6 q8 K W ∧ K ≤ N) k W (.exit 0) ⟨#[], []⟩ ((w2.setCell ⟨q8, 0, none⟩ (.slice (some ⟨g, 0, none⟩) (M.next n zs).length (M.next n zs).length)).setCell ⟨q6, 0, none⟩ (.int .i64 ((k : Int) + 1))) :=
        ⟨⟨by rw [hKk]; exact BX, by omega⟩, KX⟩
      have RH := Lib.hid R
      clear R BX KX hKk
      gi_wp2_with fail
      exact RH.out
    · have R : roundP q6 q8 (fun k W => Bx w n most many q0 q1 q2 q3 q6 q8 k W ∧ k < K) (fun W => Bx w n most many q0 q1 q2 q3 q6 q8 K W ∧ K ≤ N) k W .normal ⟨#[], []⟩ ((w2.setCell ⟨q8, 0, none⟩ (.slice (some ⟨g, 0, none⟩) (M.next n zs).length (M.next n zs).length)).setCell ⟨q6, 0, none⟩ (.int .i64 ((k : Int) + 1))) :=
        ⟨⟨BX, by have := HK.out; omega⟩, KX⟩
      have RH := Lib.hid R
      clear R BX KX
      gi_wp2_with fail
      exact RH.out
  case done | stop =>
    rintro D W hD ⟨⟨h0, h1, h2, ⟨v3, h3⟩, hk6, _, hbel⟩, hNK⟩ hdef
    obtain ⟨kf, e6, HF2⟩ : ∃ kf : Int, W.cell? ⟨q6, 0, none⟩ = some (.int .i64 kf) ∧ Hid (min (N : Int) K = kf) := ⟨_, hk6.1, by show min _ _ = _; omega⟩
    have e0 := h0.1
    have e1 := h1.1
    have e2 := h2.1
    clear hk6 hNK h0 h1 h2
    simp only [marked]
    gi_wp2_with fail
    gi_loop [13, 14, 15] (fun a b i => ∃ j : Nat, j ≤ i0 ∧ i = .int .i64 j ∧ a = .int .i64 (M.st n j).1 ∧ b = .int .i64 (M.st n j).2) (fun _ _ i => i0 - (intOf i).toNat)
    case atStart => exact ⟨0, Nat.zero_le _, rfl, rfl, rfl⟩
    case round =>
      obtain ⟨j, hj, rfl, rfl, rfl⟩ := hrel
      obtain ⟨a, ha⟩ : ∃ a, (M.st n j).1 = a := ⟨_, rfl⟩
      obtain ⟨b, hb⟩ : ∃ b, (M.st n j).2 = b := ⟨_, rfl⟩
      by_cases hlt : j < i0
      · obtain ⟨g1, g2, g3, g4, g5⟩ := HC.out j hlt
        rw [ha] at g2 g3
        rw [hb] at g4 g5
        have hst : (M.st n (j + 1)).1 = a + b ∧ (M.st n (j + 1)).2 = min (b * n) 1000 := by rw [M.st, ha, hb]; exact ⟨rfl, rfl⟩
        have HST := Lib.hid hst
        rw [ha, hb]
        clear ha hb hst
        have m1 : 0 ≤ b * n := Int.mul_nonneg g4 (by omega)
        have m2 : b * n ≤ 1000 * 16 := Int.mul_le_mul g5 hn2 (by omega) (by omega)
        gi_wp2_with fail
        exact ⟨⟨j + 1, by omega, by simp, by rw [HST.out.1], by rw [HST.out.2]⟩, by simp [intOf]; omega⟩
      · obtain rfl : j = i0 := by omega
        have hmk : min a (many % 200 + 1) = kf := by have h1 := HM.out; have h2 := HK.out; have h3 := HF2.out; rw [ha] at h1; omega
        have hbe : (kf == min a (many % 200 + 1)) = true := by rw [hmk]; simp
        have hs := HS.out
        rw [ha] at hs
        rw [ha, hb]
        clear ha hb hmk
        rcases hs with hs | hs
        all_goals
          gi_wp2_with fail
          all_goals
            refine wide_calls (lives_any W (he.below hbel)) ?_
            rintro e w9 ⟨rfl, hb9⟩
            have f3 := (h3.below hb9).2
            have k3 := (h3.below hb9).1
            have hd9 := (hb9.block D (hlt' hdef)).trans hdef
            have hdq : D ≠ q3 := by have := HQ.out; omega
            have hd10 : (w9.setCell ⟨q3, 0, none⟩ (.bool true)).heap[D]? = some (.deferred (some [])) := (Below.heap_setCell w9 ⟨q3, 0, none⟩ _ D hdq).trans hd9
            have hB10 := (below_next hbel hb9).setCell (p := ⟨q3, 0, none⟩) (by have := HQ.out; show w.heap.size ≤ q3; omega) (.bool true)
            have kx := ((h3.below hb9).set_ (.bool true))
            clear hd9 hdef hb9 e0 e1 e2 e6
            gi_wp2_with fail
            refine ⟨by simp, .inl ⟨_, _, rfl, run_takeDeferred hd10, ?_⟩⟩
            have hc5 : ((w9.setCell ⟨q3, 0, none⟩ (.bool true)).putObj D (.deferred none)).cell? ⟨q3, 0, none⟩ = some (.bool true) :=
              (World.cell?_of_block (World.putObj_heap_other (k := q3) (by omega))).trans kx.1
            have hB11 : Below w.heap.size w ((w9.setCell ⟨q3, 0, none⟩ (.bool true)).putObj D (.deferred none)) := (Cells.put (B := w.heap.size) _ hd10 rfl (by have := HQ.out; omega)).below (Nat.le_refl _) hB10
            refine ⟨.bool true, ?_, rfl, hB11⟩
            simp [results, Tryd.f32, go_sem, hc5]
end Go.Proofs.YtodjdfpealmjeaaDoor
