/-
  Contracts in the words of the walks of joins' laws. No statement is proved here.
-/
import Derived.Test.YtgafpmgdpigliaaTwZ
import Derived.Test.YtgafpmgdpigliaaJb1
namespace Go.Proofs.Ytgafpmgdpigliaa
open Go.RowKit
open Mc (Ed Ma Wv nE)

theorem sym_wdJ {m : Ma} {i : Int} {zs : List Int} (hi : m.i = i) (h1 : 1 ≤ i) : Mc.Wd m (M.sym i zs) := by
  intro c hc
  have hc : c ∈ (zs.take 12).map (· % i) := hc
  obtain ⟨z, _, rfl⟩ := List.mem_map.1 hc
  rw [hi]
  exact ⟨Int.emod_nonneg _ (by omega), Int.emod_lt_of_pos _ (by omega)⟩
theorem sym_lenJ (i : Int) (zs : List Int) : (M.sym i zs).length ≤ 12 := by
  show ((zs.take 12).map (· % i)).length ≤ 12
  rw [List.length_map, List.length_take]; omega
theorem wof_atJ (A : Option Addr) (c : Nat) (zs : List Int) (n : Nat) (w : World) (h : Rd8 w A zs) (h1 : 1 ≤ n) (h2 : n ≤ 16) (hm : zs.length ≤ 9223372036854775807) :
    Calls Try.prog 17 #[.agg #[.slice A zs.length c], .int .i64 n] w fun e w' => ∃ B k q, e = .returned (.slice B k q) ∧ Hid ((M.sym n zs).length = k) ∧ k ≤ 12 ∧ Rd w' B (M.sym n zs) ∧ k ≤ q ∧ Below w.heap.size w w' := by
  refine (of_any A c zs n w h (by omega) (by omega) hm).mono ?_
  rintro e w' ⟨B, q, rfl, hrd, hc, hb⟩
  exact ⟨B, _, q, rfl, rfl, sym_lenJ _ _, hrd, hc, hb⟩
section
variable (m : Ma) (i o : Int) (A : Option Addr) (n c : Nat) (w : World)
theorem rrun_atJ (s : Int) (W : Option Addr) (k d : Nat) (ws : List Int) (v : Mc.Val m) (hi : m.i = i) (ho : m.o = o) (hn : m.r.length = n) (hk : ws.length = k) (hr : RdR w A m.r) (hw : Rd w W ws) (hs : Mc.St m s) (hwd : Mc.Wd m ws) (hl : k ≤ 65536) :
    Calls Try.prog 21 #[.agg #[.int .i64 i, .int .i64 o, .slice A n c], .int .i64 s, .slice W k d] w fun e w' => ∃ B q, e = .returned (.slice B k q) ∧ Rd w' B (Mc.run m s ws) ∧ Below w.heap.size w w' := by
  subst hi ho hn hk
  refine (rrun_any m s A W c d ws w v hr hw hs hwd hl).mono ?_
  rintro e w' ⟨B, q, rfl, h1, _, h2⟩
  rw [Mc.run_len]
  exact ⟨B, q, rfl, h1, h2⟩
theorem rafter_atJ (W : Option Addr) (k d : Nat) (ws : List Int) (s : Int) (v : Mc.Val m) (hi : m.i = i) (ho : m.o = o) (hn : m.r.length = n) (hk : ws.length = k) (hkd : k ≤ d) (hr : RdR w A m.r) (hw : Rd w W ws) (hs : Mc.St m s) (hwd : Mc.Wd m ws) :
    Calls Try.prog 71 #[.agg #[.int .i64 i, .int .i64 o, .slice A n c], .int .i64 s, .slice W k d] w fun e w' => e = .returned (.int .i64 (Mc.aft m s ws)) ∧ Below w.heap.size w w' := by
  subst hi ho hn
  exact rafter_any m A c v ws s W k d w hr hw hs hwd hk hkd
theorem same_atJ (X Y : Option Addr) (k c d : Nat) (x y : List Int) (hx : Rd w X x) (hy : Rd w Y y) (h1 : x.length = k) (h2 : y.length = k) (hk : k ≤ 1000000) :
    Calls Try.prog 46 #[.slice X k c, .slice Y k d] w fun e w' => e = .returned (.bool (M.same x y)) ∧ Below w.heap.size w w' := by
  subst h1
  have := same_any X Y c d x y w hx hy (by omega)
  rwa [h2] at this
end
theorem same_yesJ (X Y : Option Addr) (k c d : Nat) (x y : List Int) (w : World) (hx : Rd w X x) (hy : Rd w Y y) (h1 : x.length = k) (hxy : x = y) (hk : k ≤ 1000000) :
    Calls Try.prog 46 #[.slice X k c, .slice Y k d] w fun e w' => e = .returned (.bool true) ∧ Below w.heap.size w w' := by
  subst hxy
  have h := same_atJ w X Y k c d _ _ hx hy h1 h1 hk
  rwa [Go.Proofs.Ytgafpmgdpigliaa.M.same_yes rfl] at h
/-- append of one int to a row of the call's own. -/
theorem wpList_append_intJ (wr : World) {ops : Array Oper} {rest : List Oper} {o : Oper} {a : Act} {Q : Exit → Act → World → Prop} {W0 : World} {B : Nat} {v : Value} {xs : List Int} (z : Int)
    (hown : wr.ownsRow B 3 1 v xs.length (ints xs)) (hlen : xs.length ≤ 1000000) (hB : B ≤ wr.heap.size) (hbr : Below B W0 wr) (hgd : o.guard = none) (s x : Operand)
    (ho : o.op = .call { callee := .builtin .append, args := #[s, x], argTypes := #[30, 30] }) (hs : a.eval s = v) (hx : a.eval x = .slice (some ⟨wr.heap.size, 0, none⟩) 1 1)
    (h : ∀ v' w', w'.ownsRow B 3 1 v' (xs ++ [z]).length (ints (xs ++ [z])) → Below B W0 w' → wpList Try.prog ops Q rest (a.put o.dst v') w') :
    wpList Try.prog ops Q (o :: rest) a (wr.alloc (.cells #[.int .i64 z] 3)) := by
  obtain ⟨i0, hi0, hI0, hI1, hI2⟩ := info_parts int_info
  refine wpList_append_own _ hgd s x 30 ho B 3 i0 (.int .i64 0) 1 8 Try.underlying30 hi0 hI0 hI1 hI2 rfl (by decide) v xs.length (ints xs) hs (hown.alloc _) ⟨wr.heap.size, 0, none⟩ 1 1 [.int .i64 z] hx rfl (cell_one_new _ _ _) ?_ ?_ ?_ ?_ ?_
  · intro u hu
    simp at hu
    subst hu
    rfl
  · unfold maxLen; omega
  · omega
  · simp; omega
  · intro v1 w1 hown1 hg1 _
    obtain ⟨h1, h2⟩ := own_step hbr hB hown hown1 hg1
    exact h v1 w1 (by rw [List.length_append]; exact h1) h2
theorem own_formJ {w : World} {base k : Nat} {v : Value} {xs : List Int} (h : w.ownsRow base 3 1 v k (ints xs)) : ∃ A c, v = .slice A k c ∧ Rd w A xs ∧ k ≤ c := by
  rcases h.2 with ⟨rfl, h0⟩ | ⟨g, cap, cur, rfl, _, _, hc, _⟩
  · refine ⟨none, 0, by rw [h0], fun hp => ?_, by omega⟩
    have := h.1; rw [ints_len] at this; omega
  · exact ⟨_, _, rfl, Rd.of_own h, hc⟩
/-- The box of a machine's plain data. -/
def BxX (w : World) (g : Nat) (a b d : Int) (p : Bool) (A : Option Addr) (n c : Nat) : Prop := w.heap[g]? = some (.cells #[.int .u8 a, .int .u8 b, .int .u8 d, .bool p, .slice A n c] 40)
section
variable {w w' : World} {g n c : Nat} {a b d : Int} {p : Bool} {A : Option Addr}
theorem BxX.below (h : BxX w g a b d p A n c) (hb : Below w.heap.size w w') : BxX w' g a b d p A n c := (hb.block _ (heap_lt h)).trans h
theorem BxX.cells (h : BxX w g a b d p A n c) : w.cell? ⟨g, 0, none⟩ = some (.int .u8 a) ∧ w.cell? ⟨g, 1, none⟩ = some (.int .u8 b) ∧ w.cell? ⟨g, 2, none⟩ = some (.int .u8 d) ∧ w.cell? ⟨g, 3, none⟩ = some (.bool p) ∧ w.cell? ⟨g, 4, none⟩ = some (.slice A n c) := by
  refine ⟨?_, ?_, ?_, ?_, ?_⟩ <;> (rw [cell_of_row _ _ _ _ _ _ h]; rfl)
theorem BxX.frozen (h : BxX w g a b d p A n c) (k : Nat) : w.frozen? ⟨g, k, none⟩ = false := by
  unfold BxX at h
  simp [World.frozen?, h]
theorem BxX.setB (h : BxX w g a b d p A n c) (b' : Int) : BxX (w.setCell ⟨g, 1, none⟩ (.int .u8 b')) g a b' d p A n c := by
  unfold BxX at h ⊢
  simp [World.setCell, Array.getElem?_modify, h]
theorem BxX.far (h : BxX w g a b d p A n c) {G k : Nat} (hne : g ≠ G) (v : Value) : BxX (w.setCell ⟨G, k, none⟩ v) g a b d p A n c := (Below.heap_setCell _ _ _ _ hne).trans h
theorem loadX_yields {o : Oper} {x : Act} {s : Nat} (h : o.op = .load 40 (.tmp s)) (hs : x.tmps.getD s undef = .pointer (some ⟨g, 0, none⟩)) (hB : BxX w g a b d p A n c) : yieldsM Try.prog o x w (fun v w' => v = .agg #[.int .u8 a, .int .u8 b, .int .u8 d, .bool p, .slice A n c] ∧ w' = w) := by
  unfold yieldsM
  obtain ⟨dst, op, type, pos, after, guard⟩ := o
  simp only at h
  subst h
  obtain ⟨c0, c1, c2, c3, c4⟩ := hB.cells
  have hs' : x.tmps[s]?.getD undef = .pointer (some ⟨g, 0, none⟩) := by simpa using hs
  simp [execOp, go_sem, hs', c0, c1, c2, c3, c4]
end
end Go.Proofs.Ytgafpmgdpigliaa
