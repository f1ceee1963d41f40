/-
  Contracts in the words of the walks of joins' laws. No statement is proved here.
-/
import Derived.Test.YtgafpmgdpigliaaTwZ
import Derived.Test.YtgafpmgdpigliaaJb1
namespace Go.Proofs.Ytgafpmgdpigliaa
open Go.RowKit
open Mc (Ed Ma Wv nE)

theorem sym_wdJ {m : Ma} {i : Int} {zs : List Int} (hi : m.i = i) (h1 : 1 ≤ i) : Mc.Wd m (M.sym i zs) := by
  intro c hc
  have hc : c ∈ (zs.take 12).map (· % i) := hc
  obtain ⟨z, _, rfl⟩ := List.mem_map.1 hc
  rw [hi]
  exact ⟨Int.emod_nonneg _ (by omega), Int.emod_lt_of_pos _ (by omega)⟩
theorem sym_lenJ (i : Int) (zs : List Int) : (M.sym i zs).length ≤ 12 := by
  show ((zs.take 12).map (· % i)).length ≤ 12
  rw [List.length_map, List.length_take]; omega
theorem wof_atJ (A : Option Addr) (c : Nat) (zs : List Int) (n : Nat) (w : World) (h : Rd8 w A zs) (h1 : 1 ≤ n) (h2 : n ≤ 16) (hm : zs.length ≤ 9223372036854775807) :
    Calls Try.prog 17 #[.agg #[.slice A zs.length c], .int .i64 n] w fun e w' => ∃ B k q, e = .returned (.slice B k q) ∧ Hid ((M.sym n zs).length = k) ∧ k ≤ 12 ∧ Rd w' B (M.sym n zs) ∧ k ≤ q ∧ Below w.heap.size w w' := by
  refine (of_any A c zs n w h (by omega) (by omega) hm).mono ?_
  rintro e w' ⟨B, q, rfl, hrd, hc, hb⟩
  exact ⟨B, _, q, rfl, rfl, sym_lenJ _ _, hrd, hc, hb⟩
section
variable (m : Ma) (i o : Int) (A : Option Addr) (n c : Nat) (w : World)
theorem rrun_atJ (s : Int) (W : Option Addr) (k d : Nat) (ws : List Int) (v : Mc.Val m) (hi : m.i = i) (ho : m.o = o) (hn : m.r.length = n) (hk : ws.length = k) (hr : RdR w A m.r) (hw : Rd w W ws) (hs : Mc.St m s) (hwd : Mc.Wd m ws) (hl : k ≤ 65536) :
    Calls Try.prog 21 #[.agg #[.int .i64 i, .int .i64 o, .slice A n c], .int .i64 s, .slice W k d] w fun e w' => ∃ B q, e = .returned (.slice B k q) ∧ Rd w' B (Mc.run m s ws) ∧ Below w.heap.size w w' := by
  subst hi ho hn hk
  refine (rrun_any m s A W c d ws w v hr hw hs hwd hl).mono ?_
  rintro e w' ⟨B, q, rfl, h1, _, h2⟩
  rw [Mc.run_len]
  exact ⟨B, q, rfl, h1, h2⟩
end
/-- The box of a machine's plain data. -/
def BxX (w : World) (g : Nat) (a b d : Int) (p : Bool) (A : Option Addr) (n c : Nat) : Prop := w.heap[g]? = some (.cells #[.int .u8 a, .int .u8 b, .int .u8 d, .bool p, .slice A n c] 40)
section
variable {w w' : World} {g n c : Nat} {a b d : Int} {p : Bool} {A : Option Addr}
theorem BxX.below (h : BxX w g a b d p A n c) (hb : Below w.heap.size w w') : BxX w' g a b d p A n c := (hb.block _ (heap_lt h)).trans h
theorem BxX.cells (h : BxX w g a b d p A n c) : w.cell? ⟨g, 0, none⟩ = some (.int .u8 a) ∧ w.cell? ⟨g, 1, none⟩ = some (.int .u8 b) ∧ w.cell? ⟨g, 2, none⟩ = some (.int .u8 d) ∧ w.cell? ⟨g, 3, none⟩ = some (.bool p) ∧ w.cell? ⟨g, 4, none⟩ = some (.slice A n c) := by
  refine ⟨?_, ?_, ?_, ?_, ?_⟩ <;> (rw [cell_of_row _ _ _ _ _ _ h]; rfl)
theorem BxX.frozen (h : BxX w g a b d p A n c) (k : Nat) : w.frozen? ⟨g, k, none⟩ = false := by
  unfold BxX at h
  simp [World.frozen?, h]
theorem BxX.setB (h : BxX w g a b d p A n c) (b' : Int) : BxX (w.setCell ⟨g, 1, none⟩ (.int .u8 b')) g a b' d p A n c := by
  unfold BxX at h ⊢
  simp [World.setCell, Array.getElem?_modify, h]
theorem BxX.far (h : BxX w g a b d p A n c) {G k : Nat} (hne : g ≠ G) (v : Value) : BxX (w.setCell ⟨G, k, none⟩ v) g a b d p A n c := (Below.heap_setCell _ _ _ _ hne).trans h
theorem loadX_yields {o : Oper} {x : Act} {s : Nat} (h : o.op = .load 40 (.tmp s)) (hs : x.tmps.getD s undef = .pointer (some ⟨g, 0, none⟩)) (hB : BxX w g a b d p A n c) : yieldsM Try.prog o x w (fun v w' => v = .agg #[.int .u8 a, .int .u8 b, .int .u8 d, .bool p, .slice A n c] ∧ w' = w) := by
  unfold yieldsM
  obtain ⟨dst, op, type, pos, after, guard⟩ := o
  simp only at h
  subst h
  obtain ⟨c0, c1, c2, c3, c4⟩ := hB.cells
  have hs' : x.tmps[s]?.getD undef = .pointer (some ⟨g, 0, none⟩) := by simpa using hs
  simp [execOp, go_sem, hs', c0, c1, c2, c3, c4]
end
end Go.Proofs.Ytgafpmgdpigliaa
