/-
  Several texts in one: Wa0, Wa1. No statement is proved here.
-/
import Derived.Test.YtgafpmgdpigliaaRgZ
import Derived.Test.YtgafpmgdpigliaaSMdZ
namespace Go.Proofs.Ytgafpmgdpigliaa
open Go.RowKit
open Mc (Ed Ma Wv)

theorem arr_info : (Try.prog.info? 190).map (fun i => (i.zero, i.size, i.bytes)) = some (some (.agg #[.int .i64 0, .slice none 0 0]), 2, 32) := by kernel_rfl
/-- Block g is known whole: an array of 64 bools. -/
def BlkA (w : World) (g : Nat) (cs : List Bool) : Prop := w.heap[g]? = some (.cells (cs.map Value.bool).toArray 188 (0, 0))
theorem BlkA.at_ {w : World} {g : Nat} {cs : List Bool} (h : BlkA w g cs) {k : Nat} {b : Bool} (hk : cs[k]? = some b) : w.cell? ⟨g, k, none⟩ = some (.bool b) ∧ w.frozen? ⟨g, k, none⟩ = false := by
  constructor
  · rw [cell_of_row w g k _ 188 (0, 0) h]
    simp [hk]
  · unfold BlkA at h
    simp [World.frozen?, h]
theorem BlkA.set_ {w : World} {g : Nat} {cs : List Bool} (h : BlkA w g cs) (k : Nat) (v : Bool) : BlkA (w.setCell ⟨g, k, none⟩ (.bool v)) g (cs.set k v) := by
  unfold BlkA at h ⊢
  simp [World.setCell, Array.getElem?_modify, h, List.map_set]

/-- A word in a block of its own, from base on. -/
def OwnB (base : Nat) (W : World) (A : Option Addr) (zs : List Int) : Prop := 0 < zs.length → ∃ g, A = some ⟨g, 0, none⟩ ∧ base ≤ g ∧ Blk W g zs
theorem OwnB.own {base : Nat} {W : World} {A : Option Addr} {zs : List Int} {D : Nat → Prop} (h : OwnB base W A zs) (hD : ∀ b, D b → b < base) : OwnD D W A zs := fun hp => by
  obtain ⟨g, h1, h2, h3⟩ := h hp
  exact ⟨g, h1, fun h4 => by have := hD g h4; omega, h3⟩
theorem OwnB.rd {base : Nat} {W : World} {A : Option Addr} {zs : List Int} (h : OwnB base W A zs) : Rd W A zs := fun hp => by
  obtain ⟨g, rfl, _, h3⟩ := h hp
  exact h3.rd hp

/-- Cells from base on lie as they lay, but those of one type. -/
def Kp (base : Nat) (T : TypeId) (W W' : World) : Prop := ∀ (b : Nat) cs t fr, base ≤ b → W.heap[b]? = some (.cells cs t fr) → t ≠ T → W'.heap[b]? = some (.cells cs t fr)
theorem Kp.of_kc {base : Nat} {T : TypeId} {D : Nat → Prop} {W W' : World} (h : KC D W W') (hD : ∀ b, D b → b < base) : Kp base T W W' := fun b cs t fr hb ho _ => h.2 b _ (fun h1 => by have := hD b h1; omega) ho rfl
theorem Kp.of_below {base : Nat} {T : TypeId} {W W' : World} (h : Below W.heap.size W W') : Kp base T W W' := fun b _ _ _ _ ho _ => (h.block b (hlt ho)).trans ho
theorem Kp.set {base : Nat} {T : TypeId} {W : World} {g off : Nat} {cs : Array Value} {fr : Nat × Nat} (hg : W.heap[g]? = some (.cells cs T fr)) (u : Value) : Kp base T W (W.setCell ⟨g, off, none⟩ u) := fun b cs' t fr' _ ho ht =>
  (Below.heap_setCell W ⟨g, off, none⟩ u b (by
    rintro rfl
    rw [hg] at ho
    injection ho with ho
    injection ho with _ ho
    exact ht ho.symm)).trans ho
theorem Kp.trans {base : Nat} {T : TypeId} {A B C : World} (h : Kp base T A B) (k : Kp base T B C) : Kp base T A C := fun b cs t fr hb ho ht => k b cs t fr hb (h b cs t fr hb ho ht) ht
theorem OwnB.kp {base : Nat} {T : TypeId} {W W' : World} {A : Option Addr} {zs : List Int} (h : OwnB base W A zs) (k : Kp base T W W') (hT : (3 : TypeId) ≠ T) : OwnB base W' A zs := fun hp => by
  obtain ⟨g, h1, h2, h3⟩ := h hp
  exact ⟨g, h1, h2, k g _ _ _ h2 h3 hT⟩

/-- The cells of the queue. -/
def aC (R : List (Wv × Option Addr)) : List Value := R.flatMap fun y => [.int .i64 y.1.1, .slice y.2 y.1.2.length y.1.2.length]
theorem aC_len (R : List (Wv × Option Addr)) : (aC R).length = R.length * 2 := by
  induction R with
  | nil => rfl
  | cons a R ih => rw [aC, List.flatMap_cons, List.length_append, ← aC, ih, List.length_cons]; simp; omega
theorem aC_app (x y : List (Wv × Option Addr)) : aC (x ++ y) = aC x ++ aC y := by simp [aC]
theorem aC_at : ∀ {R : List (Wv × Option Addr)} {k : Nat} {y : Wv × Option Addr}, R[k]? = some y → (aC R)[k * 2]? = some (.int .i64 y.1.1) ∧ (aC R)[k * 2 + 1]? = some (.slice y.2 y.1.2.length y.1.2.length)
  | [], k, y, h => by simp at h
  | a :: R, 0, y, h => by
    simp at h
    subst h
    exact ⟨rfl, rfl⟩
  | a :: R, k + 1, y, h => by
    obtain ⟨h1, h2⟩ := aC_at (R := R) (k := k) (y := y) (by simpa using h)
    have e : ∀ j, (aC (a :: R))[(k + 1) * 2 + j]? = (aC R)[k * 2 + j]? := fun j => by
      rw [show (k + 1) * 2 + j = 2 + (k * 2 + j) by omega, aC, List.flatMap_cons, ← aC]
      rw [List.getElem?_append_right (by simp)]
      simp
    exact ⟨(e 0).trans h1, (e 1).trans h2⟩
/-- The queue: a row of the call's own, with words in blocks of their own. -/
def Qo (W : World) (base : Nat) (Q : List Wv) (V : Value) : Prop := ∃ R : List (Wv × Option Addr), R.map (·.1) = Q ∧ W.ownsRow base 190 2 V Q.length (aC R) ∧ ∀ y ∈ R, OwnB base W y.2 y.1.2
theorem ownsRow_kp {base : Nat} {T e : TypeId} {W W' : World} {s n : Nat} {v : Value} {xs : List Value} (h : W.ownsRow base e s v n xs) (k : Kp base T W W') (hT : e ≠ T) : W'.ownsRow base e s v n xs := by
  refine ⟨h.1, ?_⟩
  rcases h.2 with h0 | ⟨g, cap, cur, e1, hb, hg, rest⟩
  · exact .inl h0
  · exact .inr ⟨g, cap, cur, e1, hb, k g _ _ _ hb hg hT, rest⟩
section
variable {W W' : World} {base : Nat} {Q : List Wv} {V : Value}
theorem Qo.kp {T : TypeId} (h : Qo W base Q V) (k : Kp base T W W') (h1 : (190 : TypeId) ≠ T) (h2 : (3 : TypeId) ≠ T) : Qo W' base Q V := by
  obtain ⟨R, e, ho, hw⟩ := h
  exact ⟨R, e, ownsRow_kp ho k h1, fun y hy => (hw y hy).kp k h2⟩
theorem Qo.form (h : Qo W base Q V) (hp : 0 < Q.length) : ∃ g c cur, V = .slice (some ⟨g, 0, none⟩) Q.length c ∧ base ≤ g ∧ g < W.heap.size ∧ W.heap[g]? = some (.cells cur 190 (0, 0)) ∧ Q.length * 2 ≤ cur.size ∧ Q.length ≤ c := by
  obtain ⟨R, e, ho, hw⟩ := h
  rcases ho.2 with ⟨_, h0⟩ | ⟨g, cap, cur, e1, hb, hg, hc, hm, hs, _⟩
  · omega
  · exact ⟨g, cap, cur, e1, hb, hlt hg, hg, by omega, hc⟩
theorem Qo.at_ (h : Qo W base Q V) {k : Nat} {x : Wv} (hk : Q[k]? = some x) {g c : Nat} (hV : V = .slice (some ⟨g, 0, none⟩) Q.length c) :
    ∃ A, W.cell? ⟨g, k * 2, none⟩ = some (.int .i64 x.1) ∧ W.cell? ⟨g, k * 2 + 1, none⟩ = some (.slice A x.2.length x.2.length) ∧ OwnB base W A x.2 := by
  obtain ⟨R, e, ho, hw⟩ := h
  rw [← e, List.getElem?_map, Option.map_eq_some_iff] at hk
  obtain ⟨y, hy, rfl⟩ := hk
  obtain ⟨h1, h2⟩ := aC_at hy
  have hc : ∀ j v, (aC R)[j]? = some v → W.cell? ⟨g, j, none⟩ = some v := fun j v hj => by
    have := ho.cells (g := g) (by rw [hV]; rfl) j v hj
    rw [Addr.add_lit] at this
    simpa using this
  exact ⟨y.2, hc _ _ h1, hc _ _ h2, hw y (List.mem_of_getElem? hy)⟩
end
/-- The queue begins. -/
theorem Qo.start (w : World) (s : Int) (A : Option Addr) : Qo (w.alloc (.cells #[.int .i64 s, .slice A 0 0] 190)) w.heap.size [(s, [])] (.slice (some ⟨w.heap.size, 0, none⟩) 1 1) :=
  ⟨[((s, []), A)], rfl, ⟨rfl, .inr ⟨w.heap.size, 1, _, rfl, Nat.le_refl _, heap_alloc_new w _, Nat.le_refl _, by unfold maxLen; omega, rfl, rfl⟩⟩, fun y hy => by
    simp at hy
    subst hy
    exact fun h => absurd h (by simp)⟩
theorem Qo.lower {W : World} {base b' : Nat} {Q : List Wv} {V : Value} (h : Qo W base Q V) (hb : b' ≤ base) : Qo W b' Q V := by
  obtain ⟨R, e, ho, hw⟩ := h
  refine ⟨R, e, ?_, fun y hy hp => ?_⟩
  · refine ⟨ho.1, ?_⟩
    rcases ho.2 with h0 | ⟨g, cap, cur, e1, hb1, rest⟩
    · exact .inl h0
    · exact .inr ⟨g, cap, cur, e1, by omega, rest⟩
  · obtain ⟨g, h1, h2, h3⟩ := hw y hy hp
    exact ⟨g, h1, by omega, h3⟩
/-- One state more in the queue. -/
theorem wpListIn_append_arr {F : Fence} {nn : Nat} (wr : World) {ops : Array Oper} {rest : List Oper} {o : Oper} {a : Act} {P : Exit → Act → World → Prop} {base : Nat} {V : Value} {Q : List Wv} {x : Wv} {A : Option Addr} {t : Int} {k : Nat}
    (ht : x.1 = t) (hk : x.2.length = k)    (hq : Qo wr base Q V) (hp : 0 < Q.length) (hA : OwnB base wr A x.2) (hlen : Q.length ≤ 1000000) (hB : base ≤ wr.heap.size) (hgd : o.guard = none) (s z : Operand)
    (ho : o.op = .call { callee := .builtin .append, args := #[s, z], argTypes := #[191, 191] }) (hs : a.eval s = V) (hx : a.eval z = .slice (some ⟨wr.heap.size, 0, none⟩) 1 1)
    (h : ∀ g c w1, Qo w1 base (Q ++ [x]) (.slice (some ⟨g, 0, none⟩) (Q.length + 1) c) → Q.length + 1 ≤ c → KI base wr w1 → Kp 0 190 wr w1 →
      (∀ b cs, b < wr.heap.size → (∀ g' c', V = .slice (some ⟨g', 0, none⟩) Q.length c' → b ≠ g') → wr.heap[b]? = some (.cells cs 190 (0, 0)) → cs.size = 2 → w1.heap[b]? = some (.cells cs 190 (0, 0)) ∧ g ≠ b) →
      wpListIn F nn Try.prog ops P rest (a.put o.dst (.slice (some ⟨g, 0, none⟩) (Q.length + 1) c)) w1) :
    wpListIn F nn Try.prog ops P (o :: rest) a (wr.alloc (.cells #[.int .i64 t, .slice A k k] 190)) := by
  subst ht hk
  obtain ⟨gq, cq, cur, hV, hb1, hb2, hg, _, hcq⟩ := hq.form hp
  obtain ⟨R, e, hown, hw⟩ := hq
  obtain ⟨i0, hi0, hI0, hI1, hI2⟩ := info_parts arr_info
  have hbA : Below wr.heap.size wr (wr.alloc (.cells #[.int .i64 x.1, .slice A x.2.length x.2.length] 190)) := (Below.refl _ _).alloc (Nat.le_refl _) _
  refine wpListIn_append_own _ hgd s z 191 ho base 190 i0 (.agg #[.int .i64 0, .slice none 0 0]) 2 32 Try.underlying191 hi0 hI0 hI1 hI2 rfl (by decide) V Q.length (aC R) hs (hown.alloc _) ⟨wr.heap.size, 0, none⟩ 1 1 [.int .i64 x.1, .slice A x.2.length x.2.length] hx rfl ?_ ?_ ?_ ?_ ?_ ?_
  · intro j u hj
    rw [Addr.add_lit, World.cell?_alloc_at _ _ _ _ rfl]
    match j, hj with
    | 0, hj => simpa using hj
    | 1, hj => simpa using hj
  · intro u hu
    simp at hu
    rcases hu with rfl | rfl <;> rfl
  · unfold maxLen; omega
  · omega
  · simp; omega
  · intro v1 w1 h1 hgr hnil
    have hVo : V.ownBlock = some gq := by rw [hV]; rfl
    rw [hVo] at hgr
    have hgA : (wr.alloc (.cells #[.int .i64 x.1, .slice A x.2.length x.2.length] 190)).heap[gq]? = some (.cells cur 190 (0, 0)) := (hbA.block gq hb2).trans hg
    have hkp : Kp 0 190 wr w1 := fun b cs t fr _ hb ht => by
      have hbl := hlt hb
      refine (hgr.block b (by simp; omega) ?_).trans ((hbA.block b hbl).trans hb)
      intro e1
      injection e1 with e1
      subst e1
      rw [hg] at hb
      injection hb with hb
      injection hb with _ hb
      exact ht hb.symm
    have hki : KI base wr w1 := (KI.of_below hbA hB).trans (KI.grown hgr hgA (.inl rfl) hb1)
    have hrow : w1.ownsRow base 190 2 v1 (Q.length + 1) (aC (R ++ [(x, A)])) := by
      rw [aC_app]
      exact h1
    rcases h1.2 with ⟨_, h0⟩ | ⟨g, cap, cur1, e1, hbg, hg1, hcap, hm, hsz, _⟩
    · omega
    · subst e1
      refine h g cap w1 ⟨R ++ [(x, A)], by simp [e], by rw [List.length_append]; exact hrow, fun y hy => ?_⟩ hcap hki hkp ?_
      · rcases List.mem_append.1 hy with hy | hy
        · exact (hw y hy).kp (fun b cs t fr _ hb ht => hkp b cs t fr (Nat.zero_le _) hb ht) (by decide)
        · simp at hy
          subst hy
          exact hA.kp (fun b cs t fr _ hb ht => hkp b cs t fr (Nat.zero_le _) hb ht) (by decide)
      · intro b cs hb hne hbc hcs
        have hw1 : w1.heap[b]? = some (.cells cs 190 (0, 0)) := (hgr.block b (by simp; omega) (fun e2 => by injection e2 with e2; exact hne gq cq hV e2)).trans ((hbA.block b hb).trans hbc)
        refine ⟨hw1, ?_⟩
        rintro rfl
        rw [hg1] at hw1
        injection hw1 with hw1
        injection hw1 with hw1
        subst hw1
        omega

/-- The memory of the walk between two rounds. -/
structure Wq (D : Nat → Prop) (W : World) (f : Nat) (cs : List Bool) (Q : List Wv) (V : Value) (wr : World) : Prop where
  kc : KC D W wr
  fb : BlkA wr f cs
  f0 : W.heap.size ≤ f
  qo : Qo wr W.heap.size Q V
  dl : ∀ b, D b → b < W.heap.size
/-- The box of the state at work. -/
def Nb (wr : World) (nb : Nat) (x : Wv) (A : Option Addr) : Prop := wr.heap[nb]? = some (.cells #[.int .i64 x.1, .slice A x.2.length x.2.length] 190 (0, 0))
section
variable {D : Nat → Prop} {W wr w1 : World} {f : Nat} {cs : List Bool} {Q : List Wv} {V : Value}
theorem KC.ki (h : KC D W wr) (k : KI W.heap.size wr w1) : KC D W w1 := ⟨Nat.le_trans h.1 k.ch.size, fun b o hb ho hc => (k.ch.low b (hlt ho)).trans (h.2 b o hb ho hc)⟩
theorem Wq.keep (h : Wq D W f cs Q V wr) (k : KC D wr w1) : Wq D W f cs Q V w1 :=
  ⟨h.kc.trans k, k.2 f _ (fun h1 => by have := h.dl f h1; have := h.f0; omega) h.fb rfl, h.f0, h.qo.kp (T := 0) (Kp.of_kc k h.dl) (by decide) (by decide), h.dl⟩
theorem Wq.below (h : Wq D W f cs Q V wr) (k : Below wr.heap.size wr w1) : Wq D W f cs Q V w1 := h.keep (KC.of_below k)
theorem Wq.ki (h : Wq D W f cs Q V wr) {t : Nat} (u : Value) : KI W.heap.size wr (wr.setCell ⟨f, t, none⟩ u) := KI.set h.fb (.inr rfl) h.f0 u
theorem Wq.mark (h : Wq D W f cs Q V wr) (t : Nat) (u : Bool) : Wq D W f (cs.set t u) Q V (wr.setCell ⟨f, t, none⟩ (.bool u)) :=
  ⟨h.kc.ki (h.ki _), h.fb.set_ t u, h.f0, h.qo.kp (Kp.set h.fb _) (by decide) (by decide), h.dl⟩
theorem Wq.push {Q' : List Wv} {V' : Value} (h : Wq D W f cs Q V wr) (hq : Qo w1 W.heap.size Q' V') (hk : KI W.heap.size wr w1) (hp : Kp 0 190 wr w1) : Wq D W f cs Q' V' w1 :=
  ⟨h.kc.ki hk, hp f _ _ _ (Nat.zero_le _) h.fb (by decide), h.f0, hq, h.dl⟩
theorem Nb.cells {nb : Nat} {x : Wv} {A : Option Addr} (h : Nb wr nb x A) : wr.cell? ⟨nb, 0, none⟩ = some (.int .i64 x.1) ∧ wr.cell? ⟨nb, 1, none⟩ = some (.slice A x.2.length x.2.length) := by
  refine ⟨?_, ?_⟩ <;> rw [cell_of_row wr _ _ _ _ _ h] <;> rfl
theorem Nb.new (w : World) (x : Wv) (A : Option Addr) : Nb (w.alloc (.cells #[.int .i64 x.1, .slice A x.2.length x.2.length] 190)) w.heap.size x A := heap_alloc_new w _
theorem Nb.keep {nb : Nat} {x : Wv} {A : Option Addr} (h : Nb wr nb x A) (k : KC D wr w1) (hn : ¬ D nb) : Nb w1 nb x A := k.2 nb _ hn h rfl
theorem Nb.below {nb : Nat} {x : Wv} {A : Option Addr} (h : Nb wr nb x A) (k : Below wr.heap.size wr w1) : Nb w1 nb x A := (k.block nb (hlt h)).trans h
theorem Nb.mark {nb t : Nat} {x : Wv} {A : Option Addr} (h : Nb wr nb x A) (hq : Wq D W f cs Q V wr) (u : Value) : Nb (wr.setCell ⟨f, t, none⟩ u) nb x A :=
  Kp.set (base := 0) hq.fb u nb _ _ _ (Nat.zero_le _) h (by decide)
end
end Go.Proofs.Ytgafpmgdpigliaa

namespace Go.Proofs.Ytgafpmgdpigliaa
open Go.RowKit
open Mc (Ed Ma Wv)

theorem walk_any (i o s : Int) (A : Option Addr) (n c : Nat) (w : World) :
    Calls Try.prog 117 #[.agg #[.int .i64 i, .int .i64 o, .slice A n c], .int .i64 s] w fun e w' => e = .returned (.func (.func 126) #[] #[.pointer (some ⟨w.heap.size + 1, 0, none⟩), .pointer (some ⟨w.heap.size, 0, none⟩)]) ∧
      w' = (boxM w i o A n c).alloc (.cells #[.int .i64 s] 3) := by
  go_enter Try.func117, Try.ntmps117
  go_wp2
  go_ret
  exact ⟨rfl, rfl⟩
theorem bfG_at {m : Ma} {Q : List Wv} {p f : Nat} {x : Wv} (h : Q[p]? = some x) : Mc.bfG m (f + 1) p Q = Mc.bfG m f (p + 1) (Mc.bfR m x m.i.toNat Q) := by
  rw [Mc.bfG, h]
theorem bfG_end {m : Ma} {Q : List Wv} (f : Nat) : Mc.bfG m f Q.length Q = Q := by
  cases f with
  | zero => rfl
  | succ f => rw [Mc.bfG, List.getElem?_eq_none (Nat.le_refl _)]
theorem lit64 : (List.map Value.bool (List.replicate 64 false)).toArray = #[.bool false, .bool false, .bool false, .bool false, .bool false, .bool false, .bool false, .bool false, .bool false, .bool false, .bool false, .bool false, .bool false, .bool false, .bool false, .bool false, .bool false, .bool false, .bool false, .bool false, .bool false, .bool false, .bool false, .bool false, .bool false, .bool false, .bool false, .bool false, .bool false, .bool false, .bool false, .bool false, .bool false, .bool false, .bool false, .bool false, .bool false, .bool false, .bool false, .bool false, .bool false, .bool false, .bool false, .bool false, .bool false, .bool false, .bool false, .bool false, .bool false, .bool false, .bool false, .bool false, .bool false, .bool false, .bool false, .bool false, .bool false, .bool false, .bool false, .bool false, .bool false, .bool false, .bool false, .bool false] := by rfl
theorem fnd_start (s : Int) (t : Nat) (h : s = t) : Mc.tab Mc.oB [(s, [])] 64 = (List.replicate 64 false).set t true := by
  subst h
  have e := Mc.tab_snoc (f := Mc.oB) (Q := []) (n := 64) (t := t) (w := []) rfl
  rw [Mc.tab_nil] at e
  exact e

set_option maxRecDepth 100000 in
set_option maxHeartbeats 4000000 in
theorem walk1_gives (mm : Nat) (m : Ma) (V : Mc.Val m) (gm gs : Nat) (A : Option Addr) (d s : Nat) (D : Nat → Prop) (w0 w : World) (hr : RdR w0 A m.r) (h0w : Below w0.heap.size w0 w) (hbx : BxM w gm m.i m.o A m.r.length d)
    (hst : w.cell? ⟨gs, 0, none⟩ = some (.int .i64 s)) (hs : s < m.r.length) (hgm : ¬ D gm) (hD0 : ∀ b, D b → w0.heap.size ≤ b) (hDl : ∀ b, D b → b < w.heap.size) :
    GivesW mm 126 #[.pointer (some ⟨gs, 0, none⟩), .pointer (some ⟨gm, 0, none⟩)] (Mc.wk m s) D w := by
  intro l J Jx W hW hJ hJx hY hJ0
  have hgs : gs < w.heap.size := by
    obtain ⟨x, hx, _⟩ := cell_block hst
    exact hlt hx
  have k0 : W.cell? ⟨gs, 0, none⟩ = some (.int .i64 s) := (hW.cell (p := ⟨gs, 0, none⟩) hgs).trans hst
  have hgl : gm < w.heap.size := heap_lt hbx
  have SS : Hid (∀ (wr : World), KC D W wr → ∀ b o v, b < w0.heap.size → w0.cell? ⟨b, o, none⟩ = some v → wr.cell? ⟨b, o, none⟩ = some v) := fun wr hk b o v hb hv =>
    hk.cell (fun h => by have := hD0 b h; omega) ((hW.cell (p := ⟨b, o, none⟩) (by have := h0w.size; show b < _; omega)).trans ((h0w.cell (p := ⟨b, o, none⟩) hb).trans hv))
  have MM : Hid (∀ (wr : World), KC D W wr → wr.cell? ⟨gm, 0, none⟩ = some (.int .i64 m.i) ∧ wr.cell? ⟨gm, 2, none⟩ = some (.slice A m.r.length d)) := fun wr hk =>
    ⟨hk.cell hgm ((hW.cell (p := ⟨gm, 0, none⟩) hgl).trans hbx.cells.1), hk.cell hgm ((hW.cell (p := ⟨gm, 2, none⟩) hgl).trans hbx.cells.2.2)⟩
  have hDW : ∀ b, D b → b < W.heap.size := fun b h => by have := hDl b h; have := hW.size; omega
  have hgsW : gs < W.heap.size := by have := hW.size; omega
  have JJ := Lib.hid hJ
  have JX := Lib.hid hJx
  have YY := Lib.hid hY
  have HV := Lib.hid V
  have hr64 := V.r1
  have hi16 := V.i1
  have hi1 := V.i0
  have DW := Lib.hid hDW
  have BS := Lib.hid (Mc.BF.start V (s := (s : Int)) ⟨by omega, by omega⟩)
  obtain ⟨L, hL⟩ : ∃ L, Mc.wk m s = L := ⟨_, rfl⟩
  have HL := Lib.hid hL
  rw [hL] at hY ⊢
  clear hY
  have YY2 := YY
  rw [hL] at YY2
  clear YY hL hJ hJx hW hbx hD0 hDl h0w hgl hst hgs hgm hDW V
  -- the memory at the start
  have hs64 : s < 64 := by omega
  have C1 : BlkA (W.alloc (.cells #[.bool false, .bool false, .bool false, .bool false, .bool false, .bool false, .bool false, .bool false, .bool false, .bool false, .bool false, .bool false, .bool false, .bool false, .bool false, .bool false, .bool false, .bool false, .bool false, .bool false, .bool false, .bool false, .bool false, .bool false, .bool false, .bool false, .bool false, .bool false, .bool false, .bool false, .bool false, .bool false, .bool false, .bool false, .bool false, .bool false, .bool false, .bool false, .bool false, .bool false, .bool false, .bool false, .bool false, .bool false, .bool false, .bool false, .bool false, .bool false, .bool false, .bool false, .bool false, .bool false, .bool false, .bool false, .bool false, .bool false, .bool false, .bool false, .bool false, .bool false, .bool false, .bool false, .bool false, .bool false] 188)) W.heap.size (List.replicate 64 false) := by
    unfold BlkA
    rw [lit64]
    exact heap_alloc_new W _
  obtain ⟨c1, c2⟩ := C1.at_ (k := s) (b := false) (by rw [List.getElem?_replicate, if_pos hs64])
  have C2 : Hid (BlkA (W.alloc (.cells (List.set [.bool false, .bool false, .bool false, .bool false, .bool false, .bool false, .bool false, .bool false, .bool false, .bool false, .bool false, .bool false, .bool false, .bool false, .bool false, .bool false, .bool false, .bool false, .bool false, .bool false, .bool false, .bool false, .bool false, .bool false, .bool false, .bool false, .bool false, .bool false, .bool false, .bool false, .bool false, .bool false, .bool false, .bool false, .bool false, .bool false, .bool false, .bool false, .bool false, .bool false, .bool false, .bool false, .bool false, .bool false, .bool false, .bool false, .bool false, .bool false, .bool false, .bool false, .bool false, .bool false, .bool false, .bool false, .bool false, .bool false, .bool false, .bool false, .bool false, .bool false, .bool false, .bool false, .bool false, .bool false] s (.bool true)).toArray 188)) W.heap.size ((List.replicate 64 false).set s true)) := by
    show BlkA _ _ _
    unfold BlkA
    rw [List.map_set]
    exact heap_alloc_new W _
  have k1 : (W.alloc (.cells #[.bool false, .bool false, .bool false, .bool false, .bool false, .bool false, .bool false, .bool false, .bool false, .bool false, .bool false, .bool false, .bool false, .bool false, .bool false, .bool false, .bool false, .bool false, .bool false, .bool false, .bool false, .bool false, .bool false, .bool false, .bool false, .bool false, .bool false, .bool false, .bool false, .bool false, .bool false, .bool false, .bool false, .bool false, .bool false, .bool false, .bool false, .bool false, .bool false, .bool false, .bool false, .bool false, .bool false, .bool false, .bool false, .bool false, .bool false, .bool false, .bool false, .bool false, .bool false, .bool false, .bool false, .bool false, .bool false, .bool false, .bool false, .bool false, .bool false, .bool false, .bool false, .bool false, .bool false, .bool false] 188)).cell? ⟨gs, 0, none⟩ = some (.int .i64 s) := by
    rw [World.cell?_alloc_past _ _ _ (by show gs < _; exact hgsW)]
    exact k0
  have k2 : (W.alloc (.cells (List.set [.bool false, .bool false, .bool false, .bool false, .bool false, .bool false, .bool false, .bool false, .bool false, .bool false, .bool false, .bool false, .bool false, .bool false, .bool false, .bool false, .bool false, .bool false, .bool false, .bool false, .bool false, .bool false, .bool false, .bool false, .bool false, .bool false, .bool false, .bool false, .bool false, .bool false, .bool false, .bool false, .bool false, .bool false, .bool false, .bool false, .bool false, .bool false, .bool false, .bool false, .bool false, .bool false, .bool false, .bool false, .bool false, .bool false, .bool false, .bool false, .bool false, .bool false, .bool false, .bool false, .bool false, .bool false, .bool false, .bool false, .bool false, .bool false, .bool false, .bool false, .bool false, .bool false, .bool false, .bool false] s (.bool true)).toArray 188)).cell? ⟨gs, 0, none⟩ = some (.int .i64 s) := by
    rw [World.cell?_alloc_past _ _ _ (by show gs < _; exact hgsW)]
    exact k0
  clear C1 k0
  refine callsIn_of_wp Try.func126 rfl trivial ?_ rfl
  simp only [Try.ntmps126, List.size_toArray, List.length_cons, List.length_nil, Nat.reduceAdd, Nat.reduceSub, Array.replicate_succ, Array.replicate_zero, List.push_toArray, List.append_toArray, List.nil_append, List.cons_append]
  have hsw : Below W.heap.size W (W.alloc (.cells (List.set [.bool false, .bool false, .bool false, .bool false, .bool false, .bool false, .bool false, .bool false, .bool false, .bool false, .bool false, .bool false, .bool false, .bool false, .bool false, .bool false, .bool false, .bool false, .bool false, .bool false, .bool false, .bool false, .bool false, .bool false, .bool false, .bool false, .bool false, .bool false, .bool false, .bool false, .bool false, .bool false, .bool false, .bool false, .bool false, .bool false, .bool false, .bool false, .bool false, .bool false, .bool false, .bool false, .bool false, .bool false, .bool false, .bool false, .bool false, .bool false, .bool false, .bool false, .bool false, .bool false, .bool false, .bool false, .bool false, .bool false, .bool false, .bool false, .bool false, .bool false, .bool false, .bool false, .bool false, .bool false] s (.bool true)).toArray 188)) := (Below.refl _ _).alloc (Nat.le_refl _) _
  gi_wp2_with fail
  clear c1 c2 k1 k2
  obtain ⟨W1, hW1⟩ : ∃ W1, W.alloc (.cells (List.set [.bool false, .bool false, .bool false, .bool false, .bool false, .bool false, .bool false, .bool false, .bool false, .bool false, .bool false, .bool false, .bool false, .bool false, .bool false, .bool false, .bool false, .bool false, .bool false, .bool false, .bool false, .bool false, .bool false, .bool false, .bool false, .bool false, .bool false, .bool false, .bool false, .bool false, .bool false, .bool false, .bool false, .bool false, .bool false, .bool false, .bool false, .bool false, .bool false, .bool false, .bool false, .bool false, .bool false, .bool false, .bool false, .bool false, .bool false, .bool false, .bool false, .bool false, .bool false, .bool false, .bool false, .bool false, .bool false, .bool false, .bool false, .bool false, .bool false, .bool false, .bool false, .bool false, .bool false, .bool false] s (.bool true)).toArray 188) = W1 := ⟨_, rfl⟩
  have hz1 : W1.heap.size = W.heap.size + 1 := by rw [← hW1]; simp
  rw [hW1] at hsw C2 ⊢
  have hq0 := Qo.start (W1.alloc (.cells #[] 3)) (s : Int) (some ⟨W.heap.size + 1, 0, none⟩)
  have hz2 : (W1.alloc (.cells #[] 3)).heap.size = W.heap.size + 1 + 1 := by rw [World.size_alloc, hz1]
  rw [hz2] at hq0
  obtain ⟨W3, hW3⟩ : ∃ W3, (W1.alloc (.cells #[] 3)).alloc (.cells #[.int .i64 s, .slice (some ⟨W.heap.size + 1, 0, none⟩) 0 0] 190) = W3 := ⟨_, rfl⟩
  have hb13 : Below W1.heap.size W1 W3 := by rw [← hW3]; exact ((Below.refl _ _).alloc (Nat.le_refl _) _).alloc (by simp) _
  have hb03 : Below W.heap.size W W3 := hsw.trans (hb13.mono (by omega))
  have hz3 : W3.heap.size = W.heap.size + 3 := by rw [← hW3, World.size_alloc, hz2]
  rw [hW3] at hq0 ⊢
  have hstart : Hid (Wq D W W.heap.size (Mc.tab Mc.oB [((s : Int), [])] 64) [((s : Int), [])] (.slice (some ⟨W.heap.size + 1 + 1, 0, none⟩) 1 1) W3) := by
    refine ⟨KC.of_below hb03, ?_, Nat.le_refl _, hq0.lower (by omega), DW.out⟩
    rw [fnd_start s s rfl]
    exact (hb13.block _ (by omega)).trans C2.out
  have hJ3 : Hid (J 0 W3) := JJ.out _ _ _ hJ0 (KI.of_below hb03 (Nat.le_refl _))
  clear hW3 hq0 hz2 hW1 hsw C2 hb13 hz1 hb03 hz3 hJ0 W1
  gi_loopw [5, 6] (fun v z wr => ∃ (p : Nat) (Q : List Wv) (gq q cq fu : Nat), z = .int .i64 p ∧ v = .slice (some ⟨gq, 0, none⟩) q cq ∧ p ≤ q ∧ q ≤ 64 ∧ 1 ≤ q ∧ fu + p = m.r.length + 1 ∧ Hid (Q.length = q) ∧ Hid (Mc.bfG m fu p Q = L) ∧ Hid (Mc.BF m s Q p 0) ∧ Hid (J p wr) ∧ Hid (Wq D W W.heap.size (Mc.tab Mc.oB Q 64) Q (.slice (some ⟨gq, 0, none⟩) q cq) wr)) (fun _ z _ => 65 - (intOf z).toNat)
  case atStart => exact ⟨0, [((s : Int), [])], _, 1, 1, m.r.length + 1, rfl, rfl, by omega, by omega, by omega, by omega, rfl, HL.out, BS.out, hJ3, hstart⟩
  case round =>
    obtain ⟨p, Q, gq, q, cq, fu, rfl, rfl, hpq, hq64, hq1, hfu, hQ, hG, hB, hj, hW⟩ := hrel
    clear hstart hJ3 BS
    by_cases hlt : p < q
    · obtain ⟨⟨xs, xw⟩, hx⟩ : ∃ x, Q[p]? = some x := ⟨_, List.getElem?_eq_getElem (by rw [hQ.out]; exact hlt)⟩
      obtain ⟨⟨hx0, hx1⟩, hxl⟩ := hB.out.lw _ (List.mem_of_getElem? hx)
      simp only at hx0 hx1 hxl
      obtain ⟨t, rfl⟩ := Int.eq_ofNat_of_zero_le hx0
      have htl : t < m.r.length := by omega
      obtain ⟨X, c0, c1, hOB⟩ := hW.out.qo.at_ hx (g := gq) (c := cq) (by rw [hQ.out])
      simp only at c0 c1 hOB
      have hLp : Hid (L[p]? = some ((t : Int), xw)) := by
        show _ = _
        rw [← hG.out]
        exact Mc.pre_at (Mc.bfG_pre m fu p Q) hx
      obtain ⟨nx, hnx⟩ : ∃ nx, xw.length = nx := ⟨_, rfl⟩
      have NX := Lib.hid hnx
      rw [hnx] at c1
      have hsh : nx < 64 := by
        have := hxl.short HV.out ⟨by omega, by omega⟩ (by omega)
        omega
      have hszW : W.heap.size ≤ wr.heap.size := hW.out.kc.1
      have hbN : Below wr.heap.size wr (wr.alloc (.cells #[.int .i64 t, .slice X nx nx] 190)) := (Below.refl _ _).alloc (Nat.le_refl _) _
      have hN0 : Nb (wr.alloc (.cells #[.int .i64 t, .slice X nx nx] 190)) wr.heap.size ((t : Int), xw) X := by
        have := Nb.new wr ((t : Int), xw) X
        simp only [hnx] at this
        exact this
      have HN0 := Lib.hid hN0
      obtain ⟨n0, n1⟩ := hN0.cells
      simp only [hnx] at n0 n1
      obtain ⟨fn, tmps, assign, body, hyl, hR⟩ := YY2.out p ((t : Int), xw) X _ hLp.out (JJ.out _ _ _ hj.out (KI.of_below hbN hszW)) ((hOB.kp (T := 0) (Kp.of_below hbN) (by decide)).own DW.out)
      simp only [wvv, hnx] at hyl
      have HWN := Lib.hid (hW.out.below hbN)
      have hgq : gq < wr.heap.size := by
        obtain ⟨g', c', _, hv, _, hl, _⟩ := hW.out.qo.form (by rw [hQ.out]; omega)
        injection hv with hv
        injection hv with hv
        injection hv with hv
        omega
      have hndb : ¬ D wr.heap.size := fun h => by have := DW.out _ h; omega
      have HBF := Lib.hid hx
      have HWD := Lib.hid hxl.wd
      have HO0 := Lib.hid (hOB.kp (T := 0) (Kp.of_below hbN) (by decide))
      clear hx hN0 hbN hOB hnx hx0 hx1 hxl
      gi_wp2_with fail
      refine ⟨(fun h => by simp [Fence.wide] at h), hR.mono ?_⟩
      rintro e W3 (⟨rfl, hJ3, hk3⟩ | ⟨rfl, hJx3⟩)
      · have hW3 := Lib.hid (HWN.out.keep hk3)
        have hN3 := Lib.hid (HN0.out.keep hk3 hndb)
        have hO3 := Lib.hid (HO0.out.kp (T := 0) (Kp.of_kc hk3 DW.out) (by decide))
        have HJ3 := Lib.hid hJ3
        clear hyl hR n0 n1 c0 c1 HWN HN0 HO0 hJ3 hk3 hW hj hndb
        obtain ⟨nb, hnb⟩ : ∃ nb, wr.heap.size = nb := ⟨_, rfl⟩
        rw [hnb] at hN3 hgq ⊢
        have hWnb : W.heap.size ≤ nb := by omega
        obtain ⟨q0, q2⟩ := MM.out W3 hW3.out.kc
        obtain ⟨b, off, B, dd, ni, row, rfl, hb, hcw, _, _, _, hpw, hln, hqr⟩ := hr.at_ htl
        have hc := SS.out W3 hW3.out.kc b (off + t) _ hb hcw
        have hni : (ni : Int) = m.i := by rw [← hln.out]; exact HV.out.len row (List.mem_of_getElem? hqr.out)
        obtain ⟨n0, n1⟩ := hN3.out.cells
        have hnx := NX.out
        simp only [hnx] at n0 n1
        clear hnx hcw hnb hszW
        gi_wp2
        gi_loopw [5, 42] (fun v z wx => ∃ (j : Nat) (Q' : List Wv) (gq q cq : Nat), z = .int .i64 j ∧ v = .slice (some ⟨gq, 0, none⟩) q cq ∧ j ≤ ni ∧ q ≤ 64 ∧ 1 ≤ q ∧ Hid (Q'.length = q) ∧ Hid (Mc.bfR m ((t : Int), xw) j Q = Q') ∧ Hid (J (p + 1) wx) ∧ Hid (Wq D W W.heap.size (Mc.tab Mc.oB Q' 64) Q' (.slice (some ⟨gq, 0, none⟩) q cq) wx) ∧ Hid (Nb wx nb ((t : Int), xw) X) ∧ Hid (OwnB W.heap.size wx X xw) ∧ gq ≠ nb) (fun _ z _ => ni - (intOf z).toNat)
        case atStart => exact ⟨0, Q, gq, q, cq, rfl, rfl, Nat.zero_le _, hq64, hq1, hQ, rfl, HJ3, hW3, hN3, hO3, by omega⟩
        case round =>
          clear q0 q2 hc n0 n1 HJ3 hW3 hN3 hO3 hgq
          obtain ⟨j, Q', gq', q', cq', rfl, rfl, hj, hq64', hq1', hQ', hR', hJ', hW', hN', hO', hne⟩ := hrel
          by_cases hjl : j < ni
          · obtain ⟨b2, off2, ex, ey, rfl, hb2, hx0, hy0, hqe⟩ := hpw.at_ (k := j) (by rw [hln.out]; exact hjl)
            have hxx := SS.out wr hW'.out.kc b2 (off2 + j * 2) _ hb2 hx0
            have hyy := SS.out wr hW'.out.kc b2 (off2 + j * 2 + 1) _ hb2 hy0
            have hnx : Hid (Mc.nx m t j = (ex, ey)) := Mc.nx_at hqr.out hqe.out
            have hst : Hid (Mc.bfR m ((t : Int), xw) (j + 1) Q = Mc.bfE m ((t : Int), xw) Q' j) := by
              show _ = _
              rw [Mc.bfR, hR'.out]
            have hbE : Below wr.heap.size wr (wr.alloc (.cells #[.int .i64 ex, .int .i64 ey] 27)) := (Below.refl _ _).alloc (Nat.le_refl _) _
            have hszx : W.heap.size ≤ wr.heap.size := hW'.out.kc.1
            have PE := Lib.hid (BxE.new wr ex ey)
            have p0 := PE.out.cells.1
            have hJE := Lib.hid (JJ.out _ _ _ hJ'.out (KI.of_below hbE hszx))
            have hWE := Lib.hid (hW'.out.below hbE)
            have hNE := Lib.hid (hN'.out.below hbE)
            have hOE := Lib.hid (hO'.out.kp (T := 0) (Kp.of_below hbE) (by decide))
            have hok := HV.out.ok row (List.mem_of_getElem? hqr.out) _ (List.mem_of_getElem? hqe.out)
            simp only at hok
            clear hb2 hx0 hy0 hbE
            by_cases hx1 : ex = -1
            · have hgo : Hid (Mc.bfR m ((t : Int), xw) (j + 1) Q = Q') := by
                show _ = _
                rw [hst.out]
                unfold Mc.bfE
                rw [if_pos (Or.inl (by simp only [hnx.out]; omega))]
              subst hx1
              gi_wp2
              go_roundw
              case rel => exact ⟨j + 1, Q', gq', q', cq', by go_num, rfl, by omega, hq64', hq1', hQ', hgo, hJE, hWE, hNE, hOE, hne⟩
              case measure => simp [intOf]; omega
            · have hxb : (ex == -1) = false := by rw [beq_eq_false_iff_ne]; exact hx1
              obtain ⟨u, rfl⟩ := Int.eq_ofNat_of_zero_le (show 0 ≤ ex by omega)
              have hul : u < m.r.length := by omega
              have hu64 : u < 64 := by omega
              have hta := Mc.tab_at (f := Mc.oB) (Q := Q') hu64
              cases hlk : Q'.lookup (u : Int) with
              | some wv =>
                rw [hlk] at hta
                obtain ⟨f0, f1⟩ := hWE.out.fb.at_ hta
                simp only [Mc.oB, Option.isSome_some] at f0
                have hgo : Hid (Mc.bfR m ((t : Int), xw) (j + 1) Q = Q') := by
                  show _ = _
                  rw [hst.out]
                  unfold Mc.bfE
                  rw [if_pos (Or.inr (by simp only [hnx.out, hlk, Option.isSome_some]))]
                clear hok hx1 hta hlk
                gi_wp2
                go_roundw
                case rel => exact ⟨j + 1, Q', gq', q', cq', by go_num, rfl, by omega, hq64', hq1', hQ', hgo, hJE, hWE, hNE, hOE, hne⟩
                case measure => simp [intOf]; omega
              | none =>
                rw [hlk] at hta
                obtain ⟨f0, f1⟩ := hWE.out.fb.at_ hta
                simp only [Mc.oB, Option.isSome_none] at f0
                have hgo : Hid (Mc.bfR m ((t : Int), xw) (j + 1) Q = Q' ++ [((u : Int), xw ++ [(j : Int)])]) := by
                  show _ = _
                  rw [hst.out]
                  unfold Mc.bfE
                  rw [if_neg (by simp only [hnx.out, hlk, Option.isSome_none]; simp <;> omega)]
                  simp only [hnx.out]
                have hWM := Lib.hid (hWE.out.mark u true)
                have hNM := Lib.hid (hNE.out.mark (t := u) hWE.out (.bool true))
                have hOM := Lib.hid (hOE.out.kp (Kp.set hWE.out.fb (off := u) (.bool true)) (by decide))
                have hJM := Lib.hid (JJ.out _ _ _ hJE.out (hWE.out.ki (t := u) (.bool true)))
                have hFl : W.heap.size < wr.heap.size := heap_lt hW'.out.fb
                have hPM : Hid (BxE ((wr.alloc (.cells #[.int .i64 u, .int .i64 ey] 27)).setCell ⟨W.heap.size, u, none⟩ (.bool true)) wr.heap.size u ey) := (Below.heap_setCell _ ⟨W.heap.size, u, none⟩ _ _ (by show wr.heap.size ≠ W.heap.size; omega)).trans PE.out
                have hTS := Lib.hid (Mc.tab_snoc (f := Mc.oB) (n := 64) (w := xw ++ [(j : Int)]) hlk)
                rw [World.setCell_alloc_past _ _ _ _ (by show W.heap.size < wr.heap.size; exact hFl)] at hWM hNM hJM hPM hOM
                obtain ⟨wm, hwm⟩ : ∃ wm, (wr.setCell ⟨W.heap.size, u, none⟩ (.bool true)).alloc (.cells #[.int .i64 u, .int .i64 ey] 27) = wm := ⟨_, rfl⟩
                obtain ⟨q0, _⟩ := MM.out wm (by rw [← hwm]; exact hWM.out.kc)
                obtain ⟨n0, n1⟩ := hNM.out.cells
                have p1 := hPM.out.cells.1
                rw [hwm] at hWM hNM hJM hPM hOM n0 n1 p1
                simp only [NX.out] at n0 n1
                have hlen64 : q' + 1 ≤ 64 := by
                  have h1 := (hB.out.bfR HV.out ⟨by omega, by omega⟩ HBF.out (j + 1) (by omega)).len HV.out
                  rw [hgo.out, List.length_append, hQ'.out] at h1
                  simp at h1
                  omega
                have hszm : W.heap.size ≤ wm.heap.size := hWM.out.kc.1
                have hbC : Below wm.heap.size wm ((wm.alloc (.cells #[.int .i64 j] 3)).alloc (.cells #[.slice X nx nx, .slice (some ⟨wm.heap.size, 0, none⟩) 1 1] 30)) := ((Below.refl _ _).alloc (Nat.le_refl _) _).alloc (by simp) _
                have hRS : Hid (RdS ((wm.alloc (.cells #[.int .i64 j] 3)).alloc (.cells #[.slice X nx nx, .slice (some ⟨wm.heap.size, 0, none⟩) 1 1] 30)) (some ⟨wm.heap.size + 1, 0, none⟩) [xw, [(j : Int)]]) := fun _ => by
                  refine ⟨_, 0, rfl, by simp, fun k hk => ?_⟩
                  match k, hk with
                  | 0, _ =>
                    refine ⟨X, nx, ?_, hOM.out.rd.below hbC⟩
                    rw [World.cell?_alloc_at _ _ _ _ (by simp)]
                    show _ = some (Value.slice X xw.length nx)
                    rw [NX.out]
                    rfl
                  | 1, _ =>
                    refine ⟨some ⟨wm.heap.size, 0, none⟩, 1, ?_, ?_⟩
                    · rw [World.cell?_alloc_at _ _ _ _ (by simp)]
                      rfl
                    · exact (Rd.of_block (t := 3) (heap_alloc_new wm _)).alloc _
                  | k + 2, hk => exact absurd hk (by simp only [List.length_cons, List.length_nil]; omega)
                clear hok hx1 hta hlk
                gi_wp2_with fail
                refine wide_calls (concat_snoc _ _ xw j m.i _ hRS.out HWD.out ⟨by omega, by omega⟩ ⟨hi1, hi16⟩ (by have := NX.out; omega)) ?_
                rintro e w5 ⟨g, k, rfl, hk, hg, hBg, hb5⟩
                have hbm := below_next hbC hb5
                have hW5 := Lib.hid (hWM.out.below hbm)
                have hN5 := Lib.hid (hNM.out.below hbm)
                have hO5 := Lib.hid (hOM.out.kp (T := 0) (Kp.of_below hbm) (by decide))
                have hJ5 := Lib.hid (JJ.out _ _ _ hJM.out (KI.of_below hbm hszm))
                have hP5 : BxE w5 wr.heap.size u ey := (hbm.block _ (heap_lt hPM.out)).trans hPM.out
                have p5 := hP5.cells.1
                have hsz5 : W.heap.size ≤ w5.heap.size := hW5.out.kc.1
                have hgB : W.heap.size ≤ g := by simp at hg; omega
                have hOn : Hid (OwnB W.heap.size w5 (some ⟨g, 0, none⟩) (xw ++ [(j : Int)])) := fun _ => ⟨g, rfl, hgB, hBg⟩
                clear hbC hRS q0 n0 n1 p0 p1 f0 f1 hbm hwm hWM hNM hOM hJM hPM hWE hNE hOE hJE PE hb5 hg hBg hP5 hO'
                gi_wp2_with (gi_at_builtin; go_loud (refine wpListIn_append_arr _ (x := ((u : Int), xw ++ [(j : Int)])) (base := W.heap.size) rfl hk.out hW5.out.qo (by rw [hQ'.out]; omega) hOn.out (by rw [hQ'.out]; omega) hsz5 rfl _ _ rfl rfl rfl ?_))
                intro g6 c6 w6 hq6 hc6 hki6 hkp6 hnb6
                have hW6 := hW5.out.push hq6 hki6 hkp6
                have hTS' := hTS.out
                simp only [Mc.oB, Option.isSome_some] at hTS'
                rw [← hTS', hQ'.out] at hW6
                obtain ⟨hN6, hne6⟩ := hnb6 nb _ (heap_lt hN5.out) (fun _ e => hne e.symm) hN5.out rfl
                have HW6 := Lib.hid hW6
                have HN6 : Hid (Nb w6 nb ((t : Int), xw) X) := hN6
                have HO6 := Lib.hid (hO5.out.kp (fun b cs t fr _ hb ht => hkp6 b cs t fr (Nat.zero_le _) hb ht) (by decide))
                have HJ6 := Lib.hid (JJ.out _ _ _ hJ5.out hki6)
                have hQ6 : Hid ((Q' ++ [((u : Int), xw ++ [(j : Int)])]).length = q' + 1) := by
                  show _ = _
                  rw [List.length_append, hQ'.out]
                  rfl
                rw [hQ'.out] at hc6 ⊢
                clear hW6 hN6 hq6 hki6 hkp6 hnb6 hTS' p5 hW5 hN5 hO5 hJ5 hTS
                gi_wp2
                go_roundw
                case rel => exact ⟨j + 1, Q' ++ [((u : Int), xw ++ [(j : Int)])], g6, q' + 1, c6, by go_num, rfl, by omega, hlen64, by omega, hQ6, hgo, HJ6, HW6, HN6, HO6, hne6⟩
                case measure => simp [intOf]; omega
          · have hjn : j = ni := by omega
            obtain ⟨fv, rfl⟩ : ∃ fv, fu = fv + 1 := ⟨fu - 1, by have h1 := hB.out.len HV.out; have h2 := hQ.out; omega⟩
            have hmi : m.i.toNat = j := by omega
            have hG' : Hid (Mc.bfG m fv (p + 1) Q' = L) := by
              show _ = _
              rw [← hG.out, bfG_at HBF.out, hmi, hR'.out]
            have hB' : Hid (Mc.BF m s Q' (p + 1) 0) := by
              have h1 := hB.out.row HV.out ⟨by omega, by omega⟩ HBF.out
              rw [hmi, hR'.out] at h1
              exact h1
            have hpq' : p + 1 ≤ q' := by
              have h1 := (Mc.bfR_pre m ((t : Int), xw) Q j).length_le
              rw [hR'.out, hQ.out, hQ'.out] at h1
              omega
            clear hN' hO' hmi
            gi_wp2
            go_roundw
            case rel => exact ⟨p + 1, Q', gq', q', cq', fv, by go_num, rfl, hpq', hq64', hq1', by omega, hQ', hG', hB', hJ', hW'⟩
            case measure => simp [intOf]; omega
      · clear hyl hR
        gi_wp2
        refine bodyPost_ret (results_none rfl _ _ _) rfl ?_
        exact ⟨⟨_, rfl⟩, .inr hJx3⟩
    · have hpe : p = q := by omega
      have hfin : Hid (J L.length wr) := by
        have h1 := hG.out
        have h2 := hQ.out
        rw [hpe, ← h2, bfG_end] at h1
        have : L.length = p := by rw [← h1, h2, hpe]
        rw [this]
        exact hj.out
      clear hj hG
      gi_wp2
      go_end0
      exact ⟨⟨_, rfl⟩, .inl hfin.out⟩
end Go.Proofs.Ytgafpmgdpigliaa
