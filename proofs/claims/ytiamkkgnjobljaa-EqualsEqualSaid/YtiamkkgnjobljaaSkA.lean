/-
  Several texts in one: SC1, SMem, SC2, SC3. No statement is proved here.
-/
import Derived.Test.YtiamkkgnjobljaaSMc9
import Derived.Test.YtiamkkgnjobljaaSwZ
import Derived.Test.YtiamkkgnjobljaaProg
import Derived.Test.YtiamkkgnjobljaaBaZ
import Derived.Test.YtiamkkgnjobljaaRmZ
import Derived.Outline
import Derived.Deep.LoopGhost
import Derived.Deep.QuietTactic
import Derived.BigQuiet
import Derived.Maps.AppendAt
import Derived.RegionTactic
import Derived.Deep.OwnRows
import Derived.Laws.CopyOwn
import Derived.Lib.SmallJoins
import Derived.Deep.RegionWith
import Derived.Deep.AppendLies
import Derived.Deep.RegionLaw
import Derived.BigRegion
namespace Go.Proofs.Ytiamkkgnjobljaa
open Go.RowKit

namespace M
/-- What Count returns. -/
def cntV (p : List Int) : Int := if pck p = 0 then cnt p else 0
theorem cntV_err {p : List Int} {q : Int} (h : pck p = q) (h1 : q ≠ 0) : cntV p = 0 := by rw [cntV, if_neg (by omega)]
theorem cntV_ok {p : List Int} (h : pck p = 0) : cntV p = cnt p := by rw [cntV, if_pos h]
end M
theorem ret_two {a b c d : Int} (h1 : a = c) (h2 : b = d) : Ending.returned (.tuple #[.int .i64 a, .int .i64 b]) = .returned (.tuple #[.int .i64 c, .int .i64 d]) := by rw [h1, h2]

theorem Rd.cl {w : World} {b off : Nat} {zs : List Int} (h : Rd w (some ⟨b, off, none⟩) zs) {k : Nat} (hk : k < zs.length) : ∃ z, b < w.heap.size ∧ w.cell? ⟨b, off + k, none⟩ = some (.int .i64 z) ∧ Hid (M.gz zs k = z) := by
  obtain ⟨b', off', e, hb, hc⟩ := h (by omega)
  injection e with e
  injection e with e1 e2
  subst e1 e2
  exact ⟨_, hb, hc k hk, rfl⟩
theorem Rd.opn {w : World} {A : Option Addr} {zs : List Int} (h : Rd w A zs) (hp : 0 < zs.length) : ∃ b off, A = some ⟨b, off, none⟩ := by
  obtain ⟨b, off, e, _, _⟩ := h hp
  exact ⟨b, off, e⟩

end Go.Proofs.Ytiamkkgnjobljaa

namespace Go.Proofs.Ytiamkkgnjobljaa
open Go.RowKit

/-- A list in new memory, without spare capacity. -/
def Exact (w : World) (zs : List Int) (e : Ending) (w' : World) : Prop := ∃ A, e = .returned (.slice A zs.length zs.length) ∧ Rd w' A zs ∧ Below w.heap.size w w'
/-- The same with an error beside it. -/
def Made (w : World) (zs : List Int) (f : Int) (e : Ending) (w' : World) : Prop := ∃ A, e = .returned (.tuple #[.slice A zs.length zs.length, .int .i64 f]) ∧ Rd w' A zs ∧ Below w.heap.size w w'

/-- Block g is known whole: the ints cs. -/
def Blk7 (w : World) (g : Nat) (cs : List Int) : Prop := w.heap[g]? = some (.cells (ints cs).toArray 3 (0, 0))
section
variable {w w' : World} {g : Nat} {cs : List Int}
theorem Blk7.lt (h : Blk7 w g cs) : g < w.heap.size := by
  rcases Nat.lt_or_ge g w.heap.size with hlt | hge
  · exact hlt
  · unfold Blk7 at h; rw [Array.getElem?_eq_none hge] at h; cases h
theorem Blk7.cell (h : Blk7 w g cs) {k : Nat} (hk : k < cs.length) : w.cell? ⟨g, k, none⟩ = some (.int .i64 (cs[k]?.getD 0)) := by
  rw [cell_of_row w g k _ 3 (0, 0) h]
  simpa using ints_at hk
theorem Blk7.at_ (h : Blk7 w g cs) {k : Nat} (hk : k < cs.length) : ∃ z, w.cell? ⟨g, k, none⟩ = some (.int .i64 z) ∧ w.frozen? ⟨g, k, none⟩ = false ∧ Hid (cs[k]?.getD 0 = z) := by
  refine ⟨_, h.cell hk, ?_, rfl⟩
  unfold Blk7 at h
  simp [World.frozen?, h]
theorem Blk7.set_ (h : Blk7 w g cs) (k : Nat) (v : Int) : Blk7 (w.setCell ⟨g, k, none⟩ (.int .i64 v)) g (cs.set k v) := by
  unfold Blk7 at h ⊢
  simp [World.setCell, Array.getElem?_modify, h, ints, List.map_set]
theorem Blk7.drewN (h : Blk7 w g cs) (n : Nat) : Blk7 (w.drewN n) g cs := h
theorem Blk7.below {B : Nat} (h : Blk7 w g cs) (hb : Below B w w') (hg : g < B) : Blk7 w' g cs := (hb.block g hg).trans h
theorem Blk7.rd (h : Blk7 w g cs) : Rd w (some ⟨g, 0, none⟩) cs := Rd.of_block h
end

/-- make([]int, n): a block of zeros. -/
theorem wpList_make_ints7 (w : World) {ops : Array Oper} {rest : List Oper} {o : Oper} {a : Act} {Q : Exit → Act → World → Prop}
    (hg : o.guard = none) (l c : Operand) (hop : o.op = Op.makeSlice 38 l c) (L : Int) (n : Nat) (hl : a.eval l = .int .i64 L) (hc : a.eval c = .int .i64 L) (hL : L = (n : Int)) (hn : n ≤ 65537)
    (hK : ∀ w', Hid (Blk7 w' w.heap.size (List.replicate n 0)) → Below w.heap.size w w' → wpList Try.prog ops Q rest (a.put o.dst (.slice (some ⟨w.heap.size, 0, none⟩) n n)) w') :
    wpList Try.prog ops Q (o :: rest) a w := by
  subst hL
  refine wpList_plain hg fun K hK' => ?_
  have hrun := run_make_row' (P := Try.prog) 38 3 (.int .i64 0) 8 Try.underlying38 int_info rfl .i64 .i64 n (by omega) (by omega) w
  unfold Oper.wp
  simp [execOp, hop, hl, hc, hrun, Result.andThen]
  refine hK' _ _ (hK _ ?_ ((Below.refl _ _).alloc (Nat.le_refl _) _))
  show _ = _
  rw [heap_alloc_new]
  have e := toList_madeCells_one (.int .i64 0) n
  have e2 : madeCells #[.int .i64 0] n = (ints (List.replicate n 0)).toArray := by
    rw [← Array.toList_inj, e]
    simp [ints]
  rw [e2]

def rowL (rows : List (List Int)) (k : Nat) : List Int := rows[k]?.getD []
/-- A slice value over address L reads as a list of lists. -/
def RdS7 (w : World) (L : Option Addr) (rows : List (List Int)) : Prop :=
  0 < rows.length → ∃ b off, L = some ⟨b, off, none⟩ ∧ b < w.heap.size ∧ ∀ k, k < rows.length → ∃ A c, w.cell? ⟨b, off + k, none⟩ = some (.slice A (rowL rows k).length c) ∧ Rd w A (rowL rows k)
theorem RdS7.below {w w' : World} {L : Option Addr} {rows : List (List Int)} (h : RdS7 w L rows) (hb : Below w.heap.size w w') : RdS7 w' L rows := fun hp => by
  obtain ⟨b, off, e, hl, hc⟩ := h hp
  refine ⟨b, off, e, by have := hb.size; omega, fun k hk => ?_⟩
  obtain ⟨A, c, h1, h2⟩ := hc k hk
  exact ⟨A, c, ((bcell hb).1 _ _ hl).trans h1, h2.below hb⟩
theorem RdS7.at_ {w : World} {L : Option Addr} {rows : List (List Int)} (h : RdS7 w L rows) {k : Nat} (hk : k < rows.length) : ∃ b off A c m, L = some ⟨b, off, none⟩ ∧ b < w.heap.size ∧ w.cell? ⟨b, off + k, none⟩ = some (.slice A m c) ∧ Rd w A (rowL rows k) ∧ Hid ((rowL rows k).length = m) := by
  obtain ⟨b, off, e, hl, hc⟩ := h (by omega)
  obtain ⟨A, c, h1, h2⟩ := hc k hk
  exact ⟨b, off, A, c, _, e, hl, h1, h2, rfl⟩
theorem Made.mk {w w' : World} {zs xs : List Int} {f g : Int} {A : Option Addr} {m : Nat} (h1 : xs = zs) (h2 : g = f) (hm : zs.length = m) (hr : Rd w' A zs) (hb : Below w.heap.size w w') : Made w xs g (.returned (.tuple #[.slice A m m, .int .i64 f])) w' := by
  subst h1 h2 hm
  exact ⟨A, rfl, hr, hb⟩

theorem str_info : (Try.prog.info? 9).map (fun i => (i.zero, i.size, i.bytes)) = some (some (.string ⟨#[]⟩), 1, 16) := by kernel_rfl
/-- Block g is known whole: the strings ss. -/
def BlkS (w : World) (g : Nat) (ss : List ByteArray) : Prop := w.heap[g]? = some (.cells (ss.map Value.string).toArray 9 (0, 0))
section
variable {w w' : World} {g : Nat} {ss : List ByteArray}
theorem BlkS.lt (h : BlkS w g ss) : g < w.heap.size := by
  rcases Nat.lt_or_ge g w.heap.size with hlt | hge
  · exact hlt
  · unfold BlkS at h; rw [Array.getElem?_eq_none hge] at h; cases h
theorem BlkS.cell (h : BlkS w g ss) (k : Nat) (x : ByteArray) (hx : ss[k]? = some x) : w.cell? ⟨g, 0 + k, none⟩ = some (.string x) := by
  rw [cell_of_row w g (0 + k) _ 9 (0, 0) h, Nat.zero_add]
  simp [hx]
theorem BlkS.at_ (h : BlkS w g ss) {k : Nat} (hk : k < ss.length) : ∃ x, w.cell? ⟨g, k, none⟩ = some (.string x) ∧ w.frozen? ⟨g, k, none⟩ = false ∧ Hid (ss[k]? = some x) := by
  have e := List.getElem?_eq_getElem hk
  refine ⟨ss[k], ?_, ?_, e⟩
  · have := h.cell k _ e
    rwa [Nat.zero_add] at this
  · unfold BlkS at h
    simp [World.frozen?, h]
theorem BlkS.set_ (h : BlkS w g ss) (k : Nat) (v : ByteArray) : BlkS (w.setCell ⟨g, k, none⟩ (.string v)) g (ss.set k v) := by
  unfold BlkS at h ⊢
  simp [World.setCell, Array.getElem?_modify, h, List.map_set]
theorem BlkS.far (h : BlkS w g ss) {g2 : Nat} (hg : g ≠ g2) (k : Nat) (u : Value) : BlkS (w.setCell ⟨g2, k, none⟩ u) g ss := (Below.heap_setCell w ⟨g2, k, none⟩ u g hg).trans h
theorem BlkS.below {B : Nat} (h : BlkS w g ss) (hb : Below B w w') (hg : g < B) : BlkS w' g ss := (hb.block g hg).trans h
end
end Go.Proofs.Ytiamkkgnjobljaa

namespace Go.Proofs.Ytiamkkgnjobljaa
open Go.RowKit

/-- The places before i have their numbers. -/
def Okp (zs : List Int) (i : Nat) : Prop := ∀ j, j < i → M.gz zs j = M.gz (M.ofL zs) j
theorem Okp.start (zs : List Int) : Okp zs 0 := fun j h => absurd h (by omega)
theorem Okp.step {zs : List Int} {i : Nat} (h : Okp zs i) (h1 : M.gz zs i = M.gz (M.ofL zs) i) : Okp zs (i + 1) := fun j hj => by
  rcases Nat.lt_or_ge j i with h2 | h2
  · exact h j h2
  · have : j = i := by omega
    subst this; exact h1

theorem own_form {w : World} {base k : Nat} {v : Value} {xs : List Int} (h : w.ownsRow base 3 1 v k (ints xs)) : ∃ A c, v = .slice A k c ∧ Rd w A xs ∧ k ≤ c := by
  rcases h.2 with ⟨rfl, h0⟩ | ⟨g, cap, cur, rfl, _, _, hc, _⟩
  · refine ⟨none, 0, by rw [h0], fun hp => ?_, by omega⟩
    have := h.1; rw [ints_len] at this; omega
  · exact ⟨_, _, rfl, Rd.of_own h, hc⟩

end Go.Proofs.Ytiamkkgnjobljaa

namespace Go.Proofs.Ytiamkkgnjobljaa
open Go.RowKit

end Go.Proofs.Ytiamkkgnjobljaa
