/-
  Several texts in one: SC4, SC5, SC6. No statement is proved here.
-/
import Derived.Test.YtnodnfailjmpeaaSkA
namespace Go.Proofs.Ytnodnfailjmpeaa
open Go.RowKit

/-- A slice value over address A reads as the list ps of pairs. -/
def RdQ (w : World) (A : Option Addr) (ps : List (Int × Int)) : Prop :=
  0 < ps.length → ∃ b off, A = some ⟨b, off, none⟩ ∧ b < w.heap.size ∧ ∀ k, k < ps.length → w.cell? ⟨b, off + k * 2, none⟩ = some (.int .i64 (ps[k]?.getD (0, 0)).1) ∧ w.cell? ⟨b, off + k * 2 + 1, none⟩ = some (.int .i64 (ps[k]?.getD (0, 0)).2)
section
variable {w w' : World} {A : Option Addr} {ps : List (Int × Int)}
theorem RdQ.nil_ : RdQ w A [] := fun h => absurd h (by simp)
theorem RdQ.keep (h : RdQ w A ps) (hs : w.heap.size ≤ w'.heap.size) (hk : ∀ b o, b < w.heap.size → w'.cell? ⟨b, o, none⟩ = w.cell? ⟨b, o, none⟩) : RdQ w' A ps := fun hp => by
  obtain ⟨b, off, e, hb, hc⟩ := h hp
  exact ⟨b, off, e, by omega, fun k hk' => ⟨(hk _ _ hb).trans (hc k hk').1, (hk _ _ hb).trans (hc k hk').2⟩⟩
theorem RdQ.below (h : RdQ w A ps) (hb : Below w.heap.size w w') : RdQ w' A ps := h.keep hb.size (bcell hb).1
theorem RdQ.opn (h : RdQ w A ps) (hp : 0 < ps.length) : ∃ b off, A = some ⟨b, off, none⟩ := by
  obtain ⟨b, off, e, _, _⟩ := h hp
  exact ⟨b, off, e⟩
theorem RdQ.cl {b off : Nat} (h : RdQ w (some ⟨b, off, none⟩) ps) {k : Nat} (hk : k < ps.length) : ∃ x y, b < w.heap.size ∧ w.cell? ⟨b, off + k * 2, none⟩ = some (.int .i64 x) ∧ w.cell? ⟨b, off + k * 2 + 1, none⟩ = some (.int .i64 y) ∧ Hid (ps[k]? = some (x, y)) := by
  obtain ⟨b', off', e, hb, hc⟩ := h (by omega)
  injection e with e
  injection e with e1 e2
  subst e1 e2
  refine ⟨_, _, hb, (hc k hk).1, (hc k hk).2, ?_⟩
  rw [Hid, List.getElem?_eq_getElem hk]
  rfl
end
/-- Pairs of places. -/
def natP (ps : List (Int × Int)) : List (Nat × Nat) := ps.map fun x => (x.1.toNat, x.2.toNat)
def InP (n : Nat) (ps : List (Int × Int)) : Prop := ∀ x ∈ ps, 0 ≤ x.1 ∧ x.1 < n ∧ 0 ≤ x.2 ∧ x.2 < n
theorem InP.at_ {n k : Nat} {ps : List (Int × Int)} {x y : Int} (h : InP n ps) (hk : ps[k]? = some (x, y)) : ∃ i j : Nat, x = i ∧ y = j ∧ i < n ∧ j < n ∧ (natP ps)[k]? = some (i, j) := by
  have := h _ (List.mem_of_getElem? hk)
  refine ⟨x.toNat, y.toNat, by omega, by omega, by omega, by omega, ?_⟩
  simp [natP, hk]
theorem natP_len (ps : List (Int × Int)) : (natP ps).length = ps.length := by simp [natP]
theorem InP.rng {n : Nat} {ps : List (Int × Int)} (h : InP n ps) : M.Rng n (natP ps) := by
  intro x hx
  obtain ⟨y, hy, rfl⟩ := List.mem_map.1 hx
  have := h y hy
  simp only
  omega

section
variable {w : World} {B g n c : Nat} {xs : List Int}
theorem own_len {v : Value} (h : w.ownsRow B 3 1 v n (ints xs)) : xs.length = n := by have := h.1; rw [ints_len] at this; omega
theorem own_cl (h : w.ownsRow B 3 1 (.slice (some ⟨g, 0, none⟩) n c) n (ints xs)) {k : Nat} (hk : k < n) : ∃ z, w.cell? ⟨g, k, none⟩ = some (.int .i64 z) ∧ w.frozen? ⟨g, k, none⟩ = false ∧ Hid (M.gz xs k = z) := by
  refine ⟨M.gz xs k, ?_, h.frozenAt k, rfl⟩
  rw [h.cellAt k (by omega)]
  exact ints_at (by rw [own_len h]; exact hk)
theorem own_set (h : w.ownsRow B 3 1 (.slice (some ⟨g, 0, none⟩) n c) n (ints xs)) (k : Nat) (z : Int) : (w.setCell ⟨g, k, none⟩ (.int .i64 z)).ownsRow B 3 1 (.slice (some ⟨g, 0, none⟩) n c) n (ints (xs.set k z)) := by
  have := h.stored k (.int .i64 z)
  have e : ints (xs.set k z) = (ints xs).set k (.int .i64 z) := by simp [ints, List.map_set]
  rw [e]
  exact this.1
theorem own_pos {A : Option Addr} (h : w.ownsRow B 3 1 (.slice A n c) n (ints xs)) (hn : 0 < n) : ∃ g, A = some ⟨g, 0, none⟩ ∧ B ≤ g ∧ g < w.heap.size := by
  obtain ⟨g, cap, e, hb, hl⟩ := h.form hn
  injection e with e
  exact ⟨g, e, hb, hl⟩
end

end Go.Proofs.Ytnodnfailjmpeaa

namespace Go.Proofs.Ytnodnfailjmpeaa
open Go.RowKit

theorem pair_info : (Try.prog.info? 81).map (fun i => (i.zero, i.size, i.bytes)) = some (some (.agg #[.int .i64 0, .int .i64 0]), 2, 16) := by kernel_rfl
/-- The cells of a list of pairs. -/
def pcells (ps : List (Int × Int)) : List Value := ps.flatMap fun x => [.int .i64 x.1, .int .i64 x.2]
theorem pcells_len (ps : List (Int × Int)) : (pcells ps).length = ps.length * 2 := by
  induction ps with
  | nil => rfl
  | cons x ps ih => simp [pcells] at ih ⊢; omega
theorem pcells_snoc (ps : List (Int × Int)) (x : Int × Int) : pcells (ps ++ [x]) = pcells ps ++ [.int .i64 x.1, .int .i64 x.2] := by simp [pcells]
theorem pcells_app (x y : List (Int × Int)) : pcells (x ++ y) = pcells x ++ pcells y := by simp [pcells]
theorem pcells_at : ∀ (ps : List (Int × Int)) (k : Nat), k < ps.length → (pcells ps)[k * 2]? = some (.int .i64 (ps[k]?.getD (0, 0)).1) ∧ (pcells ps)[k * 2 + 1]? = some (.int .i64 (ps[k]?.getD (0, 0)).2)
  | [], k, h => absurd h (by simp)
  | x :: ps, 0, _ => by simp [pcells]
  | x :: ps, k + 1, h => by
    have ih := pcells_at ps k (by simpa using h)
    have e : pcells (x :: ps) = .int .i64 x.1 :: .int .i64 x.2 :: pcells ps := by simp [pcells]
    have e1 : (k + 1) * 2 = k * 2 + 1 + 1 := by omega
    rw [e, e1, List.getElem?_cons_succ, List.getElem?_cons_succ, List.getElem?_cons_succ, List.getElem?_cons_succ, List.getElem?_cons_succ]
    exact ih
def OwnP (w : World) (B : Nat) (v : Value) (m : Nat) (ps : List (Int × Int)) : Prop := w.ownsRow B 81 2 v m (pcells ps)
section
variable {w w' : World} {B m : Nat} {v : Value} {ps : List (Int × Int)}
theorem OwnP.len (h : OwnP w B v m ps) : ps.length = m := by have := h.1; rw [pcells_len] at this; omega
theorem OwnP.rd {A : Option Addr} {c : Nat} (h : OwnP w B (.slice A m c) m ps) : RdQ w A ps := fun hp => by
  have hm := h.len
  obtain ⟨g, cap, e, _, hl⟩ := World.ownsRow.form h (by omega)
  injection e with e
  subst e
  refine ⟨g, 0, rfl, hl, fun k hk => ?_⟩
  have := pcells_at ps k hk
  have e1 := World.ownsRow.cellAt h (k * 2) (by omega)
  have e2 := World.ownsRow.cellAt h (k * 2 + 1) (by omega)
  rw [Nat.zero_add]
  exact ⟨e1.trans this.1, e2.trans this.2⟩
theorem OwnP.form (h : OwnP w B v m ps) : ∃ A c, v = .slice A m c ∧ m ≤ c ∧ (0 < m → A ≠ none) := by
  rcases h.2 with ⟨rfl, h0⟩ | ⟨g, cap, cur, rfl, _, _, hc, _⟩
  · exact ⟨none, 0, by rw [h0], by omega, fun h1 => by omega⟩
  · exact ⟨_, _, rfl, hc, fun _ h => by cases h⟩
theorem OwnP.dr (h : OwnP w B v m ps) (n : Nat) (o : Obj) : ((w.drewN n).alloc o).ownsRow B 81 2 v m (pcells ps) := World.ownsRow.alloc (w := w.drewN n) h o
theorem ownP_step {w wr w1 : World} {B m : Nat} {v v1 : Value} {ps : List (Int × Int)} {x y : Int} {o : Obj} (hbr : Below B w wr) (hB : B ≤ wr.heap.size) (hown : OwnP wr B v m ps)
    (h1 : w1.ownsRow B 81 2 v1 (m + 1) (pcells ps ++ [.int .i64 x, .int .i64 y])) (hg : (wr.alloc o).grownBy w1 v.ownBlock) :
    OwnP w1 B v1 (m + 1) (ps ++ [(x, y)]) ∧ Below B w w1 :=
  ⟨by unfold OwnP; rw [pcells_snoc]; exact h1, (hbr.alloc hB o).grown hg (by simp; omega) (fun j hj => (hown.lt j hj).1)⟩
end
def intP (ps : List (Nat × Nat)) : List (Int × Int) := ps.map fun x => ((x.1 : Int), (x.2 : Int))
theorem natP_intP (ps : List (Nat × Nat)) : natP (intP ps) = ps := by simp [natP, intP, Function.comp_def]
theorem intP_len (ps : List (Nat × Nat)) : (intP ps).length = ps.length := by simp [intP]
theorem intP_snoc (ps : List (Nat × Nat)) (a b : Nat) : intP (ps ++ [(a, b)]) = intP ps ++ [((a : Int), (b : Int))] := by simp [intP]
theorem InP.of_rng {n : Nat} {ps : List (Nat × Nat)} (h : M.Rng n ps) : InP n (intP ps) := by
  intro x hx
  obtain ⟨y, hy, rfl⟩ := List.mem_map.1 hx
  have := h y hy
  simp only
  omega
/-- The cells of a new block of a pair. -/
theorem cell_pair_new (w : World) (x y : Value) (t : TypeId) : ∀ j u, [x, y][j]? = some u → (w.alloc (.cells #[x, y] t)).cell? ((⟨w.heap.size, 0, none⟩ : Addr).add j) = some u := by
  intro j u hj
  match j, hj with
  | 0, hj => simp at hj; subst hj; simp [Addr.add]
  | 1, hj => simp at hj; subst hj; simp [Addr.add]

end Go.Proofs.Ytnodnfailjmpeaa

namespace Go.Proofs.Ytnodnfailjmpeaa
open Go.RowKit

theorem gz_far {xs : List Int} {k : Nat} (h : ¬ k < xs.length) : M.gz xs k = 0 := by
  unfold M.gz
  rw [List.getElem?_eq_none (by omega)]
  rfl

end Go.Proofs.Ytnodnfailjmpeaa
