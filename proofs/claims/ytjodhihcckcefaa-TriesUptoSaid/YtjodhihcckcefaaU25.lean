/-
  Contract: Words. No statement is proved here.
-/
import Derived.Test.YtjodhihcckcefaaU24
namespace Go.Proofs.Ytjodhihcckcefaa
open Go.RowKit Go.Maps

/-- The memory of Words in its loop. -/
structure Wst (w : World) (g0 g1 g2 g3 B : Nat) (I : Int) (A : Option Addr) (N c : Nat) (l : List (List Int)) (W : World) : Prop where
  bel : Below w.heap.size w W
  xt : Bx2 W g0 56 (.int .i64 I) (.slice A N c)
  x1 : Bx1 W g1 22 (.slice none 0 0)
  x2 : Bx1 W g2 26 (.int .i64 0)
  ow : ∃ V, Bx1 W g3 22 V ∧ OwZ W B V l
/-- What the loop may write. -/
def wsD (g1 g2 g3 B : Nat) : Nat → Obj → Prop := fun b o => ((b = g1 ∨ b = g3) ∧ ∃ v fr, o = .cells v 22 fr) ∨ (b = g2 ∧ ∃ v fr, o = .cells v 26 fr) ∨ (B ≤ b ∧ ∃ cs fr, o = .cells cs 23 fr)
/-- The region that appends: what is known of the operations that have come up. -/
structure RgI (W : World) (D : Nat → Obj → Prop) (g3 B q : Nat) (VA : Option Addr) (vn vc : Nat) (x : List Int) (l : List (List Int)) (L : Nat → Bool) (a : Act) (w : World) : Prop where
  sz : a.tmps.size = 42
  t4 : a.tmps.getD 4 undef = .pointer (some ⟨g3, 0, none⟩)
  t5 : a.tmps.getD 5 undef = keyV x
  cl : (L 4 = true → L 0 = true ∧ L 3 = true) ∧ (L 3 = true → L 2 = true) ∧ (L 2 = true → L 1 = true) ∧ (L 5 = true → L 4 = true)
  q0 : L 0 = true → a.tmps.getD 30 undef = .slice VA vn vc
  q1 : L 1 = true → a.tmps.getD 31 undef = keyV x
  q2 : L 4 = false → L 2 = false → Below W.heap.size W w
  q3 : L 4 = false → L 2 = true → ∃ g w2, a.tmps.getD 32 undef = .slice (some ⟨g, 0, none⟩) q q ∧ Blk w2 g x ∧ Below W.heap.size W w2 ∧ W.heap.size ≤ g ∧ (L 3 = false → w = w2) ∧ (L 3 = true → a.tmps.getD 33 undef = .slice (some ⟨w2.heap.size, 0, none⟩) 1 1 ∧ w = w2.alloc (.cells #[.slice (some ⟨g, 0, none⟩) q q] 23))
  q4 : L 4 = true → KAo D W w ∧ Below B W w ∧ ∃ A2 n2 c2, a.tmps.getD 34 undef = .slice A2 n2 c2 ∧ OwZ w B (.slice A2 n2 c2) (l ++ [x]) ∧ Bx1 w g3 22 (.slice VA vn vc)
/-- Behind the region. -/
def RgE (W : World) (D : Nat → Obj → Prop) (g3 B : Nat) (x : List Int) (l : List (List Int)) (w : World) : Prop := KAo D W w ∧ (∀ b, b < B → b ≠ g3 → w.heap[b]? = W.heap[b]?) ∧ w.os = W.os ∧ w.tape = W.tape ∧ w.output = W.output ∧ W.heap.size ≤ w.heap.size ∧ ∃ V, Bx1 w g3 22 V ∧ OwZ w B V (l ++ [x])
def upL (L : Nat → Bool) (i : Nat) : Nat → Bool := fun j => Nat.beq i j || L j
theorem upL_set {listed : Array Bool} {i : Nat} (h : i < listed.size) : (fun j => (listed.setIfInBounds i true).getD j false) = upL (fun j => listed.getD j false) i := by
  funext j
  by_cases e : i = j
  · subst e
    simp [upL, h]
  · rw [getD_set_ne false e]
    have : Nat.beq i j = false := by
      cases hb : Nat.beq i j with
      | false => rfl
      | true => exact absurd (Nat.eq_of_beq_eq_true hb) e
    simp [upL, this]
theorem putAt {a : Act} {s : Nat} {v : Value} (h : s < a.tmps.size) : (a.put (some s) v).tmps.getD s undef = v := by simp [Act.put, h]
theorem putOff {a : Act} {s t : Nat} {v : Value} (h : s ≠ t) : (a.put (some s) v).tmps.getD t undef = a.tmps.getD t undef := by simp [Act.put, Array.getElem?_setIfInBounds_ne h]
theorem yM_mono {P : Program} {o : Oper} {a : Act} {w : World} {K K' : Value → World → Prop} (h : yieldsM P o a w K) (hk : ∀ v w', K v w' → K' v w') : yieldsM P o a w K' := by
  unfold yieldsM at h ⊢
  generalize (execOp a.eval o).run P w = r at *
  cases r with
  | ok n w' =>
    cases n <;> simp only at h ⊢
    case value v => exact hk _ _ h
    case skip => exact hk _ _ h
    case enter f args =>
      refine h.mono fun e w'' he => ?_
      obtain ⟨v, rfl, hK⟩ := he
      exact ⟨v, rfl, hk _ _ hK⟩
  | halt x w' => simp only at h
section
variable {W : World} {D : Nat → Obj → Prop} {g3 B q : Nat} {VA : Option Addr} {vn vc : Nat} {x : List Int} {l : List (List Int)} {L : Nat → Bool} {a : Act} {w : World} {o : Oper}
theorem RgI.below (h : RgI W D g3 B q VA vn vc x l L a w) (h4 : L 4 = false) : Below W.heap.size W w := by
  cases h2 : L 2 with
  | false => exact h.q2 h4 h2
  | true =>
    obtain ⟨g, w2, _, _, hb, _, k1, k2⟩ := h.q3 h4 h2
    cases h3 : L 3 with
    | false => rw [k1 h3]; exact hb
    | true => rw [(k2 h3).2]; exact hb.alloc hb.size _
theorem RgI.load (h : RgI W D g3 B q VA vn vc x l L a w) (hop : o.op = .load 22 (.tmp 4)) (hd : o.dst = some 30) (h0 : L 0 = false) (hB : Bx1 W g3 22 (.slice VA vn vc)) :
    yieldsM Try.prog o a w fun v w' => RgI W D g3 B q VA vn vc x l (upL L 0) (a.put o.dst v) w' := by
  have h4 : L 4 = false := by
    cases h4 : L 4 with
    | false => rfl
    | true => rw [(h.cl.1 h4).1] at h0; cases h0
  have hb := h.below h4
  have hc := (hB.below hb).cells.1
  have hs : a.tmps[4]?.getD undef = .pointer (some ⟨g3, 0, none⟩) := by simpa using h.t4
  obtain ⟨dst, op, type, pos, after, guard⟩ := o
  simp only at hop hd
  subst hop hd
  unfold yieldsM
  simp [execOp, go_sem, hs, hc]
  exact ⟨by simpa using h.sz, (putOff (by decide)).trans h.t4, (putOff (by decide)).trans h.t5, ⟨fun e => ⟨rfl, (h.cl.1 e).2⟩, h.cl.2.1, h.cl.2.2.1, h.cl.2.2.2⟩, fun _ => putAt (by rw [h.sz]; decide), fun e => (putOff (by decide)).trans (h.q1 e), h.q2,
    fun e1 e2 => by
      obtain ⟨g, w2, k1, k2, k3, k4, k5, k6⟩ := h.q3 e1 e2
      exact ⟨g, w2, (putOff (by decide)).trans k1, k2, k3, k4, k5, fun e => ⟨(putOff (by decide)).trans (k6 e).1, (k6 e).2⟩⟩, fun e => absurd (show L 4 = true from e) (by rw [h4]; decide)⟩
theorem RgI.mv (h : RgI W D g3 B q VA vn vc x l L a w) (hop : o.op = .move (.tmp 5)) (hd : o.dst = some 31) (h1 : L 1 = false) :
    yieldsM Try.prog o a w fun v w' => RgI W D g3 B q VA vn vc x l (upL L 1) (a.put o.dst v) w' := by
  have h2 : L 2 = false := by
    cases h2 : L 2 with
    | false => rfl
    | true => rw [h.cl.2.2.1 h2] at h1; cases h1
  have h3 : L 3 = false := by
    cases h3 : L 3 with
    | false => rfl
    | true => rw [h.cl.2.1 h3] at h2; cases h2
  have h4 : L 4 = false := by
    cases h4 : L 4 with
    | false => rfl
    | true => rw [(h.cl.1 h4).2] at h3; cases h3
  have hs : a.tmps[5]?.getD undef = keyV x := by simpa using h.t5
  obtain ⟨dst, op, type, pos, after, guard⟩ := o
  simp only at hop hd
  subst hop hd
  unfold yieldsM
  simp [execOp, go_sem, hs]
  exact ⟨by simpa using h.sz, (putOff (by decide)).trans h.t4, (putOff (by decide)).trans h.t5, ⟨h.cl.1, h.cl.2.1, fun _ => rfl, h.cl.2.2.2⟩, fun e => (putOff (by decide)).trans (h.q0 e), fun _ => putAt (by rw [h.sz]; decide), h.q2,
    fun _ e2 => absurd (show L 2 = true from e2) (by rw [h2]; decide), fun e => absurd (show L 4 = true from e) (by rw [h4]; decide)⟩
theorem RgI.call (h : RgI W D g3 B q VA vn vc x l L a w) (hop : o.op = .call { callee := .value (.func 75), args := #[.tmp 31], argTypes := #[9] }) (hd : o.dst = some 32) (h2 : L 2 = false) (h1 : L 1 = true) (hby : M.By x) (hq : x.length = q) (hq2 : q ≤ 65537) :
    yieldsM Try.prog o a w fun v w' => RgI W D g3 B q VA vn vc x l (upL L 2) (a.put o.dst v) w' := by
  have h3 : L 3 = false := by
    cases h3 : L 3 with
    | false => rfl
    | true => rw [h.cl.2.1 h3] at h2; cases h2
  have h4 : L 4 = false := by
    cases h4 : L 4 with
    | false => rfl
    | true => rw [(h.cl.1 h4).2] at h3; cases h3
  have hb := h.q2 h4 h2
  have hs : a.tmps[31]?.getD undef = keyV x := by simpa using h.q1 h1
  have hsz : (⟨(M.kU x).toArray⟩ : ByteArray).size = x.length := by rw [← M.kU_len x]; simp [ByteArray.size]
  have CW := word_any ⟨(M.kU x).toArray⟩ x w (by simp [M.uW_kU hby]) (by rw [hsz, hq]; exact hq2)
  rw [hq] at CW
  have eg := fun args w => enters_of Try.func75 (by kernel_rfl) rfl (args := args) (w := w)
  obtain ⟨dst, op, type, pos, after, guard⟩ := o
  simp only at hop hd
  subst hop hd
  unfold yieldsM
  simp [go_sem, hs, eg]
  refine CW.mono ?_
  rintro e w2 ⟨g, hg, rfl, hB2, hb2⟩
  refine ⟨_, rfl, ?_⟩
  exact ⟨by simpa using h.sz, (putOff (by decide)).trans h.t4, (putOff (by decide)).trans h.t5, ⟨h.cl.1, fun _ => rfl, fun _ => h1, h.cl.2.2.2⟩, fun e => (putOff (by decide)).trans (h.q0 e), fun e => (putOff (by decide)).trans (h.q1 e), fun _ e2 => absurd e2 (by simp [upL]),
    fun _ _ => ⟨g, w2, putAt (by rw [h.sz]; decide), hB2, below_next hb hb2, Nat.le_trans hb.size hg, fun _ => rfl, fun e => absurd (show L 3 = true from e) (by rw [h3]; decide)⟩, fun e => absurd (show L 4 = true from e) (by rw [h4]; decide)⟩
theorem RgI.build (h : RgI W D g3 B q VA vn vc x l L a w) (hop : o.op = .buildSlice 22 1 #[(0, .tmp 32)]) (hd : o.dst = some 33) (h3 : L 3 = false) (h2 : L 2 = true) :
    yieldsM Try.prog o a w fun v w' => RgI W D g3 B q VA vn vc x l (upL L 3) (a.put o.dst v) w' := by
  have h4 : L 4 = false := by
    cases h4 : L 4 with
    | false => rfl
    | true => rw [(h.cl.1 h4).2] at h3; cases h3
  obtain ⟨g, w2, k1, k2, k3, k4, k5, _⟩ := h.q3 h4 h2
  obtain rfl := k5 h3
  have hs : a.tmps[32]?.getD undef = .slice (some ⟨g, 0, none⟩) q q := by simpa using k1
  obtain ⟨dst, op, type, pos, after, guard⟩ := o
  simp only at hop hd
  subst hop hd
  unfold yieldsM
  simp [execOp, go_sem, hs]
  exact ⟨by simpa using h.sz, (putOff (by decide)).trans h.t4, (putOff (by decide)).trans h.t5, ⟨fun e => absurd (show L 4 = true from e) (by rw [h4]; decide), fun _ => h2, h.cl.2.2.1, h.cl.2.2.2⟩, fun e => (putOff (by decide)).trans (h.q0 e), fun e => (putOff (by decide)).trans (h.q1 e), fun _ e2 => absurd (show L 2 = false from e2) (by rw [h2]; decide),
    fun _ _ => ⟨g, w, (putOff (by decide)).trans k1, k2, k3, k4, fun e => absurd e (by simp [upL]), fun _ => ⟨putAt (by rw [h.sz]; decide), rfl⟩⟩, fun e => absurd (show L 4 = true from e) (by rw [h4]; decide)⟩
theorem RgI.app (h : RgI W D g3 B q VA vn vc x l L a w) (hop : o.op = .call { callee := .builtin .append, args := #[.tmp 30, .tmp 33], argTypes := #[22, 22] }) (hd : o.dst = some 34) (h4 : L 4 = false) (h0 : L 0 = true) (h3 : L 3 = true) (hB : Bx1 W g3 22 (.slice VA vn vc))
    (hO : OwZ W B (.slice VA vn vc) l) (hl : l.length ≤ 1000000) (hq : x.length = q) (hBW : B ≤ W.heap.size) (hD : ∀ b cs fr, B ≤ b → D b (.cells cs 23 fr)) (hg3 : g3 < B) (_h5 : L 5 = false) :
    yieldsM Try.prog o a w fun v w' => RgI W D g3 B q VA vn vc x l (upL L 4) (a.put o.dst v) w' := by
  have h2 := h.cl.2.1 h3
  obtain ⟨g, w2, k1, k2, k3, k4, _, k6⟩ := h.q3 h4 h2
  obtain ⟨k7, rfl⟩ := k6 h3
  have hs : a.tmps[30]?.getD undef = .slice VA vn vc := by simpa using h.q0 h0
  have hs2 : a.tmps[33]?.getD undef = .slice (some ⟨w2.heap.size, 0, none⟩) 1 1 := by simpa using k7
  obtain ⟨dst, op, type, pos, after, guard⟩ := o
  simp only at hop hd
  subst hop hd
  have hO2 := hO.below k3
  obtain ⟨v1, w1, hrun, hO3, hg⟩ := hO2.app type hl k2 (by omega) hq (Nat.le_trans hBW k3.size)
  have hbA : Below w2.heap.size w2 (w2.alloc (.cells #[.slice (some ⟨g, 0, none⟩) q q] 23)) := (Below.refl _ _).alloc (Nat.le_refl _) _
  have hkW : Below W.heap.size W (w2.alloc (.cells #[.slice (some ⟨g, 0, none⟩) q q] 23)) := below_next k3 hbA
  have hrow := hO.row
  obtain ⟨A2, c2, rfl, _⟩ := hO3.form
  have hKA : KAo D W w1 := by
    refine ⟨Nat.le_trans hkW.size hg.size, fun b ob hnd hob => ?_⟩
    have hbl := hlt hob
    refine (hg.block b (Nat.lt_of_lt_of_le hbl hkW.size) fun e => ?_).trans ((hkW.block b hbl).trans hob)
    obtain ⟨h6, cs, h7⟩ := hrow b e.symm
    rw [h7] at hob
    injection hob with hob
    exact hnd (by rw [← hob]; exact hD b _ _ h6)
  have hBB : Below B W w1 := (hkW.mono hBW).grown hg (Nat.le_trans hBW hkW.size) fun j hj => (hrow j hj).1
  have hX : Bx1 w1 g3 22 (.slice VA vn vc) := by
    have h6 := hB.below hkW
    exact (hBB.block g3 hg3).trans hB
  have he1 : a.eval (.tmp 30) = .slice VA vn vc := by simpa [Act.eval] using hs
  have he2 : a.eval (.tmp 33) = .slice (some ⟨w2.heap.size, 0, none⟩) 1 1 := by simpa [Act.eval] using hs2
  unfold yieldsM execOp
  simp only [resolve, invoke, builtin, Sem.run_bind, Sem.run_pure, Result.andThen_ok, List.map_toArray, List.map_cons, List.map_nil, he1, he2, hrun]
  exact ⟨by rw [put_size]; exact h.sz, (putOff (by decide)).trans h.t4, (putOff (by decide)).trans h.t5, ⟨fun _ => ⟨h0, h3⟩, h.cl.2.1, h.cl.2.2.1, fun _ => rfl⟩, fun e => (putOff (by decide)).trans (h.q0 e), fun e => (putOff (by decide)).trans (h.q1 e), fun e => absurd e (by simp [upL]), fun e => absurd e (by simp [upL]),
    fun _ => ⟨hKA, hBB, A2, _, c2, putAt (by rw [h.sz]; decide), hO3, hX⟩⟩
theorem RgI.store (h : RgI W D g3 B q VA vn vc x l L a w) (hop : o.op = .store 22 (.tmp 4) (.tmp 34)) (hd : o.dst = none) (h4 : L 4 = true) (hg3 : g3 < B) (hD : ∀ cs fr, D g3 (.cells cs 22 fr)) :
    yieldsM Try.prog o a w fun _ w' => RgE W D g3 B x l w' := by
  obtain ⟨k1, k2, A2, n2, c2, k3, k4, k5⟩ := h.q4 h4
  obtain ⟨c0, c1⟩ := k5.cells
  have hs : a.tmps[4]?.getD undef = .pointer (some ⟨g3, 0, none⟩) := by simpa using h.t4
  have hs2 : a.tmps[34]?.getD undef = .slice A2 n2 c2 := by simpa using k3
  obtain ⟨dst, op, type, pos, after, guard⟩ := o
  simp only at hop hd
  subst hop hd
  unfold yieldsM
  simp [execOp, go_sem, hs, hs2, c0, c1]
  have key : ∀ b, b ≠ g3 → (w.setCell ⟨g3, 0, none⟩ (.slice A2 n2 c2)).heap[b]? = w.heap[b]? := fun b hb => Below.heap_setCell w ⟨g3, 0, none⟩ _ b hb
  refine ⟨⟨by simpa using k1.1, fun b ob hnd hob => ?_⟩, fun b hb hne => (key b hne).trans (k2.block b hb), k2.os, k2.tape, k2.output, by simpa using k1.1, _, k5.set_ _, k4.far _ hg3⟩
  have h6 := k1.2 b ob hnd hob
  by_cases e : b = g3
  · subst e
    rw [k5] at h6
    injection h6 with h6
    exact absurd (h6 ▸ hD _ _) hnd
  · exact (key b e).trans h6
end
end Go.Proofs.Ytjodhihcckcefaa
