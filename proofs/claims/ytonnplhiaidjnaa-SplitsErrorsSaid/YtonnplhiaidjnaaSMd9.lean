/-
  Contracts: After, Run. No statement is proved here.
-/
import Derived.Test.YtonnplhiaidjnaaSMd8
import Derived.Test.YtonnplhiaidjnaaScB
namespace Go.Proofs.Ytonnplhiaidjnaa
open Go.RowKit
open Mc (Ed Ma Pe)
attribute [local go_sem] Oper.semAt_some

/-- Block g is known whole: the ints cs. -/
def BlkR (w : World) (g : Nat) (cs : List Int) : Prop := w.heap[g]? = some (.cells (ints cs).toArray 3 (0, 0))
section
variable {w w' : World} {g : Nat} {cs : List Int}
theorem BlkR.lt (h : BlkR w g cs) : g < w.heap.size := hlt h
theorem BlkR.at_ (h : BlkR w g cs) {k : Nat} (hk : k < cs.length) : w.cell? ⟨g, k, none⟩ = some (.int .i64 (cs[k]?.getD 0)) ∧ w.frozen? ⟨g, k, none⟩ = false := by
  constructor
  · rw [cell_of_row w g k _ 3 (0, 0) h]
    simpa using ints_at hk
  · unfold BlkR at h
    simp [World.frozen?, h]
theorem BlkR.set_ (h : BlkR w g cs) (k : Nat) (v : Int) : BlkR (w.setCell ⟨g, k, none⟩ (.int .i64 v)) g (cs.set k v) := by
  unfold BlkR at h ⊢
  simp [World.setCell, Array.getElem?_modify, h, ints, List.map_set]
theorem BlkR.mvC {B : Nat} (h : BlkR w g cs) (k : Cells B w w') : BlkR w' g cs := k.same _ _ h rfl
theorem BlkR.rd (h : BlkR w g cs) : Rd w (some ⟨g, 0, none⟩) cs := Rd.of_block h
end

theorem wpListIn_make_intsR {F : Fence} {m : Nat} (w : World) {ops : Array Oper} {rest : List Oper} {o : Oper} {a : Act} {Q : Exit → Act → World → Prop}
    (hg : o.guard = none) (l c : Operand) (hop : o.op = Op.makeSlice 29 l c) (L : Int) (n : Nat) (hl : a.eval l = .int .i64 L) (hc : a.eval c = .int .i64 L) (hL : L = (n : Int)) (hn : n ≤ 65537)
    (hK : ∀ w', BlkR w' w.heap.size (List.replicate n 0) → Below w.heap.size w w' → wpListIn F m Try.prog ops Q rest (a.put o.dst (.slice (some ⟨w.heap.size, 0, none⟩) n n)) w') :
    wpListIn F m Try.prog ops Q (o :: rest) a w := by
  subst hL
  refine wpListIn_plain hg fun K hK' => ?_
  have hrun := run_make_row' (P := Try.prog) 29 3 (.int .i64 0) 8 Try.underlying29 int_info rfl .i64 .i64 n (by omega) (by omega) w
  unfold Oper.wpIn
  refine ⟨?_, ?_⟩
  · simp [Oper.about, hop]
  · rw [Oper.semAt_plain F _ _ (by rw [hop]; intro c hc'; cases hc')]
    simp [execOp, hop, hl, hc, hrun, Result.andThen]
    refine hK' _ _ (hK _ ?_ ((Below.refl _ _).alloc (Nat.le_refl _) _))
    show _ = _
    rw [heap_alloc_new]
    have e := toList_madeCells_one (.int .i64 0) n
    have e2 : madeCells #[.int .i64 0] n = (ints (List.replicate n 0)).toArray := by
      rw [← Array.toList_inj, e]
      simp [ints]
    rw [e2]

/-- The boxes that taken lays. -/
abbrev takenW (w : World) (i o s : Int) (A W : Option Addr) (n c k d : Nat) : World := ((boxM w i o A n c).alloc (.cells #[.int .i64 s] 3)).alloc (.cells #[.slice W k d] 29)
theorem taken_lies (w : World) (i o s : Int) (A W : Option Addr) (n c k d : Nat) : Below w.heap.size w (takenW w i o s A W n c k d) ∧ BxM (takenW w i o s A W n c k d) w.heap.size i o A n c ∧
    (takenW w i o s A W n c k d).cell? ⟨w.heap.size + 1, 0, none⟩ = some (.int .i64 s) ∧ (takenW w i o s A W n c k d).cell? ⟨w.heap.size + 1 + 1, 0, none⟩ = some (.slice W k d) ∧ (takenW w i o s A W n c k d).heap.size = w.heap.size + 3 := by
  refine ⟨((((Below.refl _ _).alloc (Nat.le_refl _) _).alloc (by simp) _).alloc (by simp; omega) _), ((BxM.new w i o A n c).mvB ((Below.refl _ _).alloc (Nat.le_refl _) _)).mvB ((Below.refl _ _).alloc (Nat.le_refl _) _), ?_, ?_, by simp⟩
  · exact ((Box.new_ (W := boxM w i o A n c) (by simp) (.int .i64 s) 3).alloc _).1
  · exact (Box.new_ (by simp) (.slice W k d) 29).1
theorem M.check_zero' {zs : List Int} {n : Int} (h : M.check zs n = 0) : n ≤ 16 ∧ 1 ≤ n ∧ zs.length ≤ 256 ∧ ∀ z ∈ zs, 0 ≤ z ∧ z < n := by
  unfold M.check at h
  by_cases h1 : 16 < n ∨ 256 < zs.length
  · rw [if_pos h1] at h; omega
  · rw [if_neg h1] at h
    by_cases h2 : n < 1
    · rw [if_pos h2] at h; omega
    · rw [if_neg h2] at h
      refine ⟨by omega, by omega, by omega, fun z hz => ?_⟩
      cases hb : M.badB n z
      · simp [M.badB] at hb; omega
      · have : zs.any (M.badB n) = true := List.any_eq_true.2 ⟨z, hz, hb⟩
        simp [M.badI, this] at h
theorem runE_ok0 {m : Ma} {s : Int} {ws : List Int} (h : Mc.runE m s ws = 0) : Mc.Val m ∧ Mc.St m s ∧ Mc.Wd m ws ∧ ws.length ≤ 256 := by
  have hc : Mc.cst m s = 0 := by
    rw [Mc.runE_cst] at h
    split at h
    · rename_i h1; exact absurd h h1
    · rename_i h1; simpa using h1
  obtain ⟨V, h1, h2⟩ := Mc.cst_val hc
  rw [Mc.runE_cst, if_neg (by simp [hc])] at h
  obtain ⟨_, _, hl, hv⟩ := M.check_zero' h
  exact ⟨V, .inr ⟨h1, h2⟩, hv, by omega⟩

end Go.Proofs.Ytonnplhiaidjnaa
