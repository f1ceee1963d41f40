/-
  Several texts in one: Base, McM, Math, RankM, ConcM. No statement is proved here.
-/
import Derived.WalkKit
import Derived.WalkSpells
import Derived.Below
import Derived.Laws.OwnMore
import Derived.Laws.MakeOwn
import Derived.Laws.Rows
import Derived.Lib.Hide
import Derived.Deep.Draws
import Derived.Deep.AppendLies
namespace Go.Proofs.Ytjodhihcckcefaa
open Go.RowKit

theorem bcell {W w1 : World} (hb : Below W.heap.size W w1) : (∀ b o, b < W.heap.size → w1.cell? ⟨b, o, none⟩ = W.cell? ⟨b, o, none⟩) ∧ (∀ b o, b < W.heap.size → w1.frozen? ⟨b, o, none⟩ = W.frozen? ⟨b, o, none⟩) :=
  ⟨fun b o h => hb.cell (p := ⟨b, o, none⟩) h, fun b o h => hb.frozen (p := ⟨b, o, none⟩) h⟩

theorem below_next {w w1 w2 : World} (h : Below w.heap.size w w1) (k : Below w1.heap.size w1 w2) : Below w.heap.size w w2 := h.trans (k.mono h.size)

theorem below_drewN' {B : Nat} {a w : World} (h : Below B a w) (n : Nat) : Below B a (w.drewN n) := ⟨h.os, h.tape, h.output, h.size, h.block⟩

/-- The cells of a list of ints. -/
def ints (zs : List Int) : List Value := zs.map (Value.int .i64)
theorem ints_len (zs : List Int) : (ints zs).length = zs.length := by simp [ints]
theorem ints_snoc (zs : List Int) (z : Int) : ints zs ++ [.int .i64 z] = ints (zs ++ [z]) := by simp [ints]
theorem ints_at {zs : List Int} {k : Nat} (hk : k < zs.length) : (ints zs)[k]? = some (.int .i64 (zs[k]?.getD 0)) := by simp [ints, List.getElem?_eq_getElem hk]
theorem ints_app (x y : List Int) : ints x ++ ints y = ints (x ++ y) := by simp [ints]
/-- A slice value over address A reads as the list zs of ints. -/
def Rd (w : World) (A : Option Addr) (zs : List Int) : Prop :=
  0 < zs.length → ∃ b off, A = some ⟨b, off, none⟩ ∧ b < w.heap.size ∧ ∀ k, k < zs.length → w.cell? ⟨b, off + k, none⟩ = some (.int .i64 (zs[k]?.getD 0))

section
variable {w w' : World} {A : Option Addr} {zs : List Int}
theorem Rd.nil_ : Rd w A [] := fun h => absurd h (by simp)
theorem Rd.keep (h : Rd w A zs) (hs : w.heap.size ≤ w'.heap.size) (hk : ∀ b o, b < w.heap.size → w'.cell? ⟨b, o, none⟩ = w.cell? ⟨b, o, none⟩) : Rd w' A zs := fun hp => by
  obtain ⟨b, off, e, hb, hc⟩ := h hp
  exact ⟨b, off, e, by omega, fun k hk' => (hk _ _ hb).trans (hc k hk')⟩
theorem Rd.below (h : Rd w A zs) (hb : Below w.heap.size w w') : Rd w' A zs := h.keep hb.size (bcell hb).1
theorem Rd.drew (h : Rd w A zs) : Rd w.drew A zs := h
theorem Rd.drewN (h : Rd w A zs) (n : Nat) : Rd (w.drewN n) A zs := h
theorem Rd.alloc (h : Rd w A zs) (o : Obj) : Rd (w.alloc o) A zs := h.below ((Below.refl _ _).alloc (Nat.le_refl _) o)
theorem Rd.at_ (h : Rd w A zs) {k : Nat} (hk : k < zs.length) : ∃ b off z, A = some ⟨b, off, none⟩ ∧ b < w.heap.size ∧ w.cell? ⟨b, off + k, none⟩ = some (.int .i64 z) ∧ Hid (zs[k]?.getD 0 = z) := by
  obtain ⟨b, off, e, hb, hc⟩ := h (by omega)
  exact ⟨b, off, _, e, hb, hc k hk, rfl⟩
/-- A row of the call's own reads as its numbers. -/
theorem Rd.of_own {base : Nat} {e : TypeId} {n c : Nat} (h : w.ownsRow base e 1 (.slice A n c) n (ints zs)) : Rd w A zs := fun hp => by
  have hn : zs.length = n := by have := h.1; rw [ints_len] at this; omega
  obtain ⟨g, cap, hv, _, hlt⟩ := h.form (by omega)
  have hA : A = some ⟨g, 0, none⟩ := by injection hv
  subst hA
  refine ⟨g, 0, rfl, hlt, fun k hk => ?_⟩
  have := h.cells (g := g) rfl k (.int .i64 (zs[k]?.getD 0)) (ints_at hk)
  rw [Nat.zero_add]
  rw [Addr.add_lit] at this
  simpa using this
/-- A block of the call's own that holds just its numbers. -/
theorem Rd.of_block {g : Nat} {t : TypeId} (h : w.heap[g]? = some (.cells (ints zs).toArray t (0, 0))) : Rd w (some ⟨g, 0, none⟩) zs := fun _ => by
  have hlt : g < w.heap.size := by
    rcases Nat.lt_or_ge g w.heap.size with h1 | h1
    · exact h1
    · rw [Array.getElem?_eq_none h1] at h; cases h
  refine ⟨g, 0, rfl, hlt, fun k hk => ?_⟩
  rw [cell_of_row w g (0 + k) _ t (0, 0) h, Nat.zero_add]
  simpa using ints_at hk
end

/-- A slice value over address A reads as the list zs of bytes. -/
def Rd8 (w : World) (A : Option Addr) (zs : List Int) : Prop :=
  0 < zs.length → ∃ b off, A = some ⟨b, off, none⟩ ∧ b < w.heap.size ∧ ∀ k, k < zs.length → w.cell? ⟨b, off + k, none⟩ = some (.int .u8 (zs[k]?.getD 0)) ∧ 0 ≤ zs[k]?.getD 0 ∧ zs[k]?.getD 0 ≤ 255
section
variable {w w' : World} {A : Option Addr} {zs : List Int}
theorem Rd8.nil_ : Rd8 w A [] := fun h => absurd h (by simp)
theorem Rd8.keep (h : Rd8 w A zs) (hs : w.heap.size ≤ w'.heap.size) (hk : ∀ b o, b < w.heap.size → w'.cell? ⟨b, o, none⟩ = w.cell? ⟨b, o, none⟩) : Rd8 w' A zs := fun hp => by
  obtain ⟨b, off, e, hb, hc⟩ := h hp
  exact ⟨b, off, e, by omega, fun k hk' => ⟨(hk _ _ hb).trans (hc k hk').1, (hc k hk').2⟩⟩
theorem Rd8.below (h : Rd8 w A zs) (hb : Below w.heap.size w w') : Rd8 w' A zs := h.keep hb.size (bcell hb).1
theorem Rd8.alloc (h : Rd8 w A zs) (o : Obj) : Rd8 (w.alloc o) A zs := h.below ((Below.refl _ _).alloc (Nat.le_refl _) o)
theorem Rd8.at_ (h : Rd8 w A zs) {k : Nat} (hk : k < zs.length) : ∃ b off z, A = some ⟨b, off, none⟩ ∧ b < w.heap.size ∧ w.cell? ⟨b, off + k, none⟩ = some (.int .u8 z) ∧ 0 ≤ z ∧ z ≤ 255 ∧ Hid (zs[k]?.getD 0 = z) := by
  obtain ⟨b, off, e, hb, hc⟩ := h (by omega)
  exact ⟨b, off, _, e, hb, (hc k hk).1, (hc k hk).2.1, (hc k hk).2.2, rfl⟩
end
theorem ret_int {k : IntKind} {a b : Int} (h : a = b) : Ending.returned (.int k a) = .returned (.int k b) := by rw [h]
theorem ret_bool {a b : Bool} (h : a = b) : Ending.returned (.bool a) = .returned (.bool b) := by rw [h]
theorem take_snoc' (zs : List Int) (k : Nat) (hk : k < zs.length) : zs.take (k + 1) = zs.take k ++ [zs[k]?.getD 0] := by
  rw [List.take_add_one, List.getElem?_eq_getElem hk]; rfl
end Go.Proofs.Ytjodhihcckcefaa

namespace Go.Proofs.Ytjodhihcckcefaa.Mc

abbrev Ed := Int × Int
abbrev nE : Ed := (-1, -1)
/-- A machine: how many inputs, how many outputs, the rows. -/
structure Ma where
  i : Int
  o : Int
  r : List (List Ed)
  deriving DecidableEq
def okE (n o : Int) (x : Ed) : Bool := (decide (x.1 = -1) && decide (x.2 = -1)) || (decide (0 ≤ x.1) && decide (x.1 < n) && decide (0 ≤ x.2) && decide (x.2 < o))
def okR (n i o : Int) (row : List Ed) : Bool := decide ((row.length : Int) = i) && row.all (okE n o)
/-- The error of a machine. -/
def chk (m : Ma) : Int := if 16 < m.i ∨ 16 < m.o ∨ 64 < m.r.length then 3 else if m.i < 1 ∨ m.o < 1 ∨ m.r.length = 0 then 1 else if m.r.all (okR m.r.length m.i m.o) then 0 else 1
theorem chk_limit {m : Ma} (h : 16 < m.i ∨ 16 < m.o ∨ 64 < m.r.length) : chk m = 3 := by simp [chk, h]
theorem chk_arg {m : Ma} (h : ¬ (16 < m.i ∨ 16 < m.o ∨ 64 < m.r.length)) (h1 : m.i < 1 ∨ m.o < 1 ∨ m.r.length = 0) : chk m = 1 := by unfold chk; rw [if_neg h, if_pos h1]
theorem chk_in {m : Ma} (h : ¬ (16 < m.i ∨ 16 < m.o ∨ 64 < m.r.length)) (h1 : ¬ (m.i < 1 ∨ m.o < 1 ∨ m.r.length = 0)) : chk m = if m.r.all (okR m.r.length m.i m.o) then 0 else 1 := by unfold chk; rw [if_neg h, if_neg h1]
theorem all_snoc {α : Type} {p : α → Bool} {l : List α} {k : Nat} {x : α} (hk : l[k]? = some x) (h : (l.take k).all p = true) (hx : p x = true) : (l.take (k + 1)).all p = true := by
  rw [List.take_add_one, List.all_append, h, hk]
  simpa using hx
theorem all_hit {α : Type} {p : α → Bool} {l : List α} {k : Nat} {x : α} (hk : l[k]? = some x) (hx : p x = false) : l.all p = false := by
  cases h : l.all p with
  | false => rfl
  | true => rw [List.all_eq_true.1 h x (List.mem_of_getElem? hk)] at hx; cases hx
theorem okR_bad {n i o : Int} {row : List Ed} {k : Nat} {x : Ed} (hk : row[k]? = some x) (hx : okE n o x = false) : okR n i o row = false := by
  unfold okR; rw [all_hit hk hx, Bool.and_false]
theorem okR_len {n i o : Int} {row : List Ed} (h : (row.length : Int) ≠ i) : okR n i o row = false := by simp [okR, h]
theorem okR_ok {n i o : Int} {row : List Ed} (h : (row.length : Int) = i) (ha : row.all (okE n o) = true) : okR n i o row = true := by simp [okR, h, ha]
theorem okE_none {n o : Int} {x : Ed} (h1 : x.1 = -1) (h2 : x.2 = -1) : okE n o x = true := by simp [okE, h1, h2]
theorem okE_in {n o : Int} {x : Ed} (h1 : 0 ≤ x.1) (h2 : x.1 < n) (h3 : 0 ≤ x.2) (h4 : x.2 < o) : okE n o x = true := by simp [okE, h1, h2, h3, h4]
theorem okE_out {n o : Int} {x : Ed} (h0 : ¬ (x.1 = -1 ∧ x.2 = -1)) (h : x.1 < 0 ∨ n ≤ x.1 ∨ x.2 < 0 ∨ o ≤ x.2) : okE n o x = false := by
  cases e : okE n o x with
  | false => rfl
  | true =>
    simp [okE] at e
    omega
theorem okE_cases {n o : Int} {x : Ed} (h : okE n o x = true) : (x.1 = -1 ∧ x.2 = -1) ∨ (0 ≤ x.1 ∧ x.1 < n ∧ 0 ≤ x.2 ∧ x.2 < o) := by
  simp [okE] at h
  omega

/-- A valid machine. -/
structure Val (m : Ma) : Prop where
  i0 : 1 ≤ m.i
  i1 : m.i ≤ 16
  o0 : 1 ≤ m.o
  o1 : m.o ≤ 16
  r0 : 1 ≤ m.r.length
  r1 : m.r.length ≤ 64
  len : ∀ row ∈ m.r, (row.length : Int) = m.i
  ok : ∀ row ∈ m.r, ∀ x ∈ row, (x.1 = -1 ∧ x.2 = -1) ∨ (0 ≤ x.1 ∧ x.1 < m.r.length ∧ 0 ≤ x.2 ∧ x.2 < m.o)
theorem val_of {m : Ma} (h : chk m = 0) : Val m := by
  by_cases h1 : 16 < m.i ∨ 16 < m.o ∨ 64 < m.r.length
  · rw [chk_limit h1] at h; cases h
  by_cases h2 : m.i < 1 ∨ m.o < 1 ∨ m.r.length = 0
  · rw [chk_arg h1 h2] at h; cases h
  rw [chk_in h1 h2] at h
  split at h
  · rename_i ha
    have hr : ∀ row ∈ m.r, (row.length : Int) = m.i ∧ row.all (okE m.r.length m.o) = true := fun row hrow => by
      have := List.all_eq_true.1 ha row hrow
      simpa [okR] using this
    exact ⟨by omega, by omega, by omega, by omega, by omega, by omega, fun row hrow => (hr row hrow).1, fun row hrow x hx => okE_cases (List.all_eq_true.1 (hr row hrow).2 x hx)⟩
  · cases h
theorem chk_of {m : Ma} (v : Val m) : chk m = 0 := by
  have h1 := v.i0; have h2 := v.i1; have h3 := v.o0; have h4 := v.o1; have h5 := v.r0; have h6 := v.r1
  rw [chk_in (by omega) (by omega)]
  rw [if_pos]
  refine List.all_eq_true.2 fun row hrow => okR_ok (v.len row hrow) (List.all_eq_true.2 fun x hx => ?_)
  rcases v.ok row hrow x hx with ⟨a, b⟩ | ⟨a, b, c, d⟩
  · exact okE_none a b
  · exact okE_in a b c d
theorem chk_vals (m : Ma) : chk m = 0 ∨ chk m = 1 ∨ chk m = 3 := by
  unfold chk
  split
  · simp
  · split
    · simp
    · split <;> simp

/-! ### Runs -/
/-- The edge of a state, which may be none, for an input. -/
def nx (m : Ma) (s i : Int) : Ed := if s < 0 then nE else ((m.r[s.toNat]?.getD [])[i.toNat]?).getD nE
def run (m : Ma) : Int → List Int → List Int
  | _, [] => []
  | s, c :: w => (nx m s c).2 :: run m (nx m s c).1 w
def aft (m : Ma) : Int → List Int → Int
  | s, [] => s
  | s, c :: w => aft m (nx m s c).1 w
theorem run_len (m : Ma) : ∀ (w : List Int) (s : Int), (run m s w).length = w.length
  | [], _ => rfl
  | c :: w, s => by simp [run, run_len m w]
theorem run_app (m : Ma) : ∀ (u v : List Int) (s : Int), run m s (u ++ v) = run m s u ++ run m (aft m s u) v
  | [], _, _ => rfl
  | c :: u, v, s => by simp [run, aft, run_app m u v]
theorem aft_app (m : Ma) : ∀ (u v : List Int) (s : Int), aft m s (u ++ v) = aft m (aft m s u) v
  | [], _, _ => rfl
  | c :: u, v, s => by simp [aft, aft_app m u v]
theorem nx_neg {m : Ma} {s i : Int} (h : s < 0) : nx m s i = nE := by simp [nx, h]
theorem nx_at {m : Ma} {s i : Nat} {row : List Ed} {x : Ed} (hs : m.r[s]? = some row) (hi : row[i]? = some x) : nx m s i = x := by
  unfold nx
  rw [if_neg (by omega), Int.toNat_natCast, Int.toNat_natCast, hs, Option.getD_some, hi, Option.getD_some]
theorem run_none (m : Ma) : ∀ (w : List Int) (s : Int), s < 0 → run m s w = w.map fun _ => -1
  | [], _, _ => rfl
  | c :: w, s, h => by simp [run, nx_neg h, run_none m w]
theorem aft_none (m : Ma) : ∀ (w : List Int) (s : Int), s = -1 → aft m s w = -1
  | [], _, h => h
  | c :: w, s, h => by
    have : nx m s c = nE := nx_neg (by omega)
    simp [aft, this, aft_none m w]
/-- A state, or none. -/
def St (m : Ma) (s : Int) : Prop := s = -1 ∨ (0 ≤ s ∧ s < m.r.length)
/-- A word over the inputs. -/
def Wd (m : Ma) (w : List Int) : Prop := ∀ c ∈ w, 0 ≤ c ∧ c < m.i
theorem nx_st {m : Ma} (v : Val m) {s i : Int} (hs : St m s) (hi : 0 ≤ i ∧ i < m.i) : St m (nx m s i).1 ∧ ((nx m s i).1 = -1 → (nx m s i).2 = -1) ∧ -1 ≤ (nx m s i).2 ∧ (nx m s i).2 < m.o ∧ (0 ≤ (nx m s i).1 → 0 ≤ (nx m s i).2) := by
  have h3 := v.o0
  rcases hs with rfl | ⟨h1, h2⟩
  · rw [nx_neg (by omega)]
    exact ⟨Or.inl rfl, fun _ => rfl, by simp, by simp; omega, by simp⟩
  · obtain ⟨s, rfl⟩ := Int.eq_ofNat_of_zero_le h1
    obtain ⟨i, rfl⟩ := Int.eq_ofNat_of_zero_le hi.1
    have hl : s < m.r.length := by omega
    have hrow := v.len m.r[s] (List.getElem_mem hl)
    have hil : i < (m.r[s]).length := by omega
    rw [nx_at (List.getElem?_eq_getElem hl) (List.getElem?_eq_getElem hil)]
    rcases v.ok m.r[s] (List.getElem_mem hl) (m.r[s])[i] (List.getElem_mem hil) with ⟨a, b⟩ | ⟨a, b, c, d⟩
    · refine ⟨Or.inl a, fun _ => b, by omega, by omega, fun h => by omega⟩
    · exact ⟨Or.inr ⟨a, b⟩, fun h => by omega, by omega, d, fun _ => c⟩
theorem aft_st {m : Ma} (v : Val m) : ∀ (w : List Int) (s : Int), St m s → Wd m w → St m (aft m s w)
  | [], _, h, _ => h
  | c :: w, s, h, hw => aft_st v w _ (nx_st v h (hw c (by simp))).1 (fun d hd => hw d (by simp [hd]))

/-! ### Shape -/
def cntE (row : List Ed) : Nat := row.countP fun x => decide (0 ≤ x.1)
/-- How many edges are defined. -/
def dfd (r : List (List Ed)) : Nat := (r.map cntE).sum
theorem cntE_snoc {row : List Ed} {k : Nat} {x : Ed} (h : row[k]? = some x) : cntE (row.take (k + 1)) = cntE (row.take k) + if 0 ≤ x.1 then 1 else 0 := by
  unfold cntE
  rw [List.take_add_one, List.countP_append, h]
  by_cases hx : 0 ≤ x.1 <;> simp [hx]
theorem dfd_snoc {r : List (List Ed)} {k : Nat} {row : List Ed} (h : r[k]? = some row) : dfd (r.take (k + 1)) = dfd (r.take k) + cntE row := by
  unfold dfd
  rw [List.take_add_one, List.map_append, List.sum_append, h]
  simp
theorem cntE_le (row : List Ed) : cntE row ≤ row.length := List.countP_le_length
/-- The undefined edges of a row, of rows. -/
def undR (s : Int) (row : List Ed) (k : Nat) : List Ed := match row with
  | [] => []
  | x :: row => (if x.1 < 0 then [(s, (k : Int))] else []) ++ undR s row (k + 1)
def und (r : List (List Ed)) (k : Nat) : List Ed := match r with
  | [] => []
  | row :: r => undR k row 0 ++ und r (k + 1)
theorem undR_app (s : Int) : ∀ (a b : List Ed) (k : Nat), undR s (a ++ b) k = undR s a k ++ undR s b (k + a.length)
  | [], b, k => by simp [undR]
  | x :: a, b, k => by simp [undR, undR_app s a b, Nat.add_comm, Nat.add_left_comm]
theorem und_app : ∀ (a b : List (List Ed)) (k : Nat), und (a ++ b) k = und a k ++ und b (k + a.length)
  | [], b, k => by simp [und]
  | x :: a, b, k => by simp [und, und_app a b, Nat.add_comm, Nat.add_left_comm]
theorem undR_snoc {s : Int} {row : List Ed} {k : Nat} {x : Ed} (h : row[k]? = some x) : undR s (row.take (k + 1)) 0 = undR s (row.take k) 0 ++ (if x.1 < 0 then [(s, (k : Int))] else []) := by
  have hk : k < row.length := (List.getElem?_eq_some_iff.1 h).1
  rw [List.take_add_one, undR_app, h, List.length_take, Nat.min_eq_left (by omega)]
  simp [undR]
theorem und_snoc {r : List (List Ed)} {k : Nat} {row : List Ed} (h : r[k]? = some row) : und (r.take (k + 1)) 0 = und (r.take k) 0 ++ undR k row 0 := by
  have hk : k < r.length := (List.getElem?_eq_some_iff.1 h).1
  rw [List.take_add_one, und_app, h, List.length_take, Nat.min_eq_left (by omega)]
  simp [und]
theorem undR_len (s : Int) : ∀ (row : List Ed) (k : Nat), (undR s row k).length + cntE row = row.length
  | [], _ => rfl
  | x :: row, k => by
    have := undR_len s row (k + 1)
    by_cases hx : 0 ≤ x.1
    · have h2 : ¬ x.1 < 0 := by omega
      simp only [undR, if_neg h2, List.nil_append, cntE, List.countP_cons, decide_eq_true hx, if_true, List.length_cons]
      unfold cntE at this
      omega
    · have h2 : x.1 < 0 := by omega
      simp only [undR, if_pos h2, cntE, List.countP_cons, decide_eq_false hx, List.length_cons, List.length_append]
      unfold cntE at this
      simp
      omega
theorem und_len {i : Int} : ∀ (r : List (List Ed)) (k : Nat), (∀ row ∈ r, (row.length : Int) = i) → ((und r k).length : Int) + dfd r = r.length * i
  | [], _, _ => by simp [und, dfd]
  | row :: r, k, h => by
    have h1 := und_len r (k + 1) (fun x hx => h x (by simp [hx]))
    have h2 := undR_len k row 0
    have h3 := h row (by simp)
    simp only [und, List.length_append, dfd, List.map_cons, List.sum_cons, List.length_cons] at h1 ⊢
    have e : (((r.length + 1 : Nat)) : Int) * i = (r.length : Int) * i + i := by
      rw [Int.natCast_add, Int.add_mul]; simp
    rw [e]
    omega
/-- Each undefined edge is one, and they ascend. -/
theorem undR_mem (s : Int) : ∀ (row : List Ed) (k : Nat), ∀ p ∈ undR s row k, p.1 = s ∧ ∃ j : Nat, p.2 = ((k + j : Nat) : Int) ∧ ∃ x, row[j]? = some x ∧ x.1 < 0
  | [], _, p, h => by simp [undR] at h
  | x :: row, k, p, h => by
    rw [undR] at h
    rcases List.mem_append.1 h with h | h
    · split at h
      · rename_i hx
        simp at h
        subst h
        exact ⟨rfl, 0, rfl, x, rfl, hx⟩
      · simp at h
    · obtain ⟨h1, j, h2, y, h3, h4⟩ := undR_mem s row (k + 1) p h
      exact ⟨h1, j + 1, by rw [h2]; congr 1; omega, y, by simpa using h3, h4⟩
theorem und_mem : ∀ (r : List (List Ed)) (k : Nat), ∀ p ∈ und r k, ∃ s j : Nat, p = (((k + s : Nat) : Int), (j : Int)) ∧ ∃ row x, r[s]? = some row ∧ row[j]? = some x ∧ x.1 < 0
  | [], _, p, h => by simp [und] at h
  | row :: r, k, p, h => by
    rw [und] at h
    rcases List.mem_append.1 h with h | h
    · obtain ⟨h1, j, h2, x, h3, h4⟩ := undR_mem k row 0 p h
      exact ⟨0, j, Prod.ext h1 (by rw [h2]; simp), row, x, rfl, h3, h4⟩
    · obtain ⟨s, j, h1, row', x, h2, h3, h4⟩ := und_mem r (k + 1) p h
      exact ⟨s + 1, j, by rw [h1]; congr 2; omega, row', x, by simpa using h2, h3, h4⟩
def Lt2 (p q : Ed) : Prop := p.1 < q.1 ∨ (p.1 = q.1 ∧ p.2 < q.2)
theorem undR_sorted (s : Int) : ∀ (row : List Ed) (k : Nat), (undR s row k).Pairwise Lt2
  | [], _ => by simp [undR]
  | x :: row, k => by
    rw [undR]
    refine List.pairwise_append.2 ⟨by split <;> simp, undR_sorted s row (k + 1), fun p hp q hq => ?_⟩
    split at hp
    · simp at hp
      subst hp
      obtain ⟨h1, j, h2, _⟩ := undR_mem s row (k + 1) q hq
      exact Or.inr ⟨h1.symm, by show (k : Int) < q.2; rw [h2]; omega⟩
    · simp at hp
theorem und_sorted : ∀ (r : List (List Ed)) (k : Nat), (und r k).Pairwise Lt2
  | [], _ => by simp [und]
  | row :: r, k => by
    rw [und]
    refine List.pairwise_append.2 ⟨undR_sorted k row 0, und_sorted r (k + 1), fun p hp q hq => ?_⟩
    obtain ⟨h1, _⟩ := undR_mem k row 0 p hp
    obtain ⟨s, j, h2, _⟩ := und_mem r (k + 1) q hq
    exact Or.inl (by rw [h1, h2]; simp; omega)

/-! ### What is reached -/
/-- A state that is reached from a state. -/
inductive Rch (m : Ma) (a : Nat) : Nat → Prop
  | here : Rch m a a
  | step {s : Nat} {i : Nat} {row : List Ed} {x : Ed} (h : Rch m a s) (hs : m.r[s]? = some row) (hi : row[i]? = some x) (hx : 0 ≤ x.1) : Rch m a x.1.toNat
noncomputable def conn (m : Ma) : Bool := @decide (∀ s, s < m.r.length → Rch m 0 s) (Classical.propDecidable _)
theorem conn_iff (m : Ma) : conn m = true ↔ ∀ s, s < m.r.length → Rch m 0 s := by
  unfold conn
  exact @decide_eq_true_iff _ (Classical.propDecidable _)

/-! ### Equality -/
/-- What With returns: the rows with another edge. -/
def wth (m : Ma) (s i : Nat) (x : Ed) : Ma := { m with r := m.r.set s (((m.r[s]?).getD []).set i x) }
end Go.Proofs.Ytjodhihcckcefaa.Mc

namespace Go.Proofs.Ytjodhihcckcefaa.M

/-- Is a number no symbol over so many inputs? -/
def badB (n z : Int) : Bool := decide (z < 0) || decide (n ≤ z)
theorem badB_true {n z : Int} (h : badB n z = true) : z < 0 ∨ n ≤ z := by simpa [badB] using h
theorem badB_false {n z : Int} (h : ¬ badB n z = true) : 0 ≤ z ∧ z < n := by
  simp [badB] at h
  omega
/-- 1 if some number is no symbol. -/
def badI (n : Int) (zs : List Int) : Int := if zs.any (badB n) then 1 else 0
theorem badI_clean {n : Int} {zs : List Int} (h : zs.any (badB n) = false) : badI n zs = 0 := by simp [badI, h]
theorem badI_hit {n : Int} {zs : List Int} {k : Nat} (hk : k < zs.length) (h : badB n (zs[k]?.getD 0) = true) : badI n zs = 1 := by
  have : zs.any (badB n) = true := List.any_eq_true.2 ⟨zs[k], List.getElem_mem hk, by simpa [List.getElem?_eq_getElem hk] using h⟩
  simp [badI, this]
theorem any_snoc {n : Int} {zs : List Int} {k : Nat} (hk : k < zs.length) (h : (zs.take k).any (badB n) = false) (hb : badB n (zs[k]?.getD 0) = false) : (zs.take (k + 1)).any (badB n) = false := by
  rw [List.take_add_one, List.any_append, h, List.getElem?_eq_getElem hk]
  simpa [List.getElem?_eq_getElem hk] using hb
/-- The error of a word. -/
def check (zs : List Int) (n : Int) : Int :=
  if 16 < n ∨ 256 < zs.length then 3 else if n < 1 then 1 else badI n zs
theorem check_limit {zs : List Int} {n : Int} (h : 16 < n ∨ 256 < zs.length) : check zs n = 3 := by simp [check, h]
theorem check_arg {zs : List Int} {n : Int} (h : ¬ (16 < n ∨ 256 < zs.length)) (h1 : n < 1) : check zs n = 1 := by simp [check, h, h1]
theorem check_in {zs : List Int} {n : Int} (h : n ≤ 16) (h2 : zs.length ≤ 256) (h1 : 1 ≤ n) : check zs n = badI n zs := by
  unfold check
  rw [if_neg (by omega), if_neg (by omega)]
/-- The order of lists of the same length: by the first difference. -/
def lex : List Int → List Int → Int
  | a :: x, b :: y => if a < b then -1 else if b < a then 1 else lex x y
  | _, _ => 0
/-- The order of words. -/
def cmp (x y : List Int) : Int := if x.length < y.length then -1 else if y.length < x.length then 1 else lex x y

theorem lex_app (p s t : List Int) : lex (p ++ s) (p ++ t) = lex s t := by
  induction p with
  | nil => rfl
  | cons c p ih => simp [lex, ih]
theorem lex_of {x y p s t : List Int} (hx : x = p ++ s) (hy : y = p ++ t) : lex x y = lex s t := by rw [hx, hy, lex_app]
theorem split_at {x : List Int} {k : Nat} (hk : k < x.length) : x = x.take k ++ (x[k]?.getD 0) :: x.drop (k + 1) := by
  rw [List.getElem?_eq_getElem hk]
  simp
theorem cmp_lt {x y : List Int} {k : Nat} (hl : x.length = y.length) (hk : k < x.length) (he : x.take k = y.take k) (h : x[k]?.getD 0 < y[k]?.getD 0) : cmp x y = -1 := by
  have hx := split_at hk
  have hy := split_at (x := y) (k := k) (by omega)
  rw [← he] at hy
  unfold cmp
  rw [if_neg (by omega), if_neg (by omega), lex_of hx hy]
  simp [lex, h]
theorem cmp_gt {x y : List Int} {k : Nat} (hl : x.length = y.length) (hk : k < x.length) (he : x.take k = y.take k) (h : y[k]?.getD 0 < x[k]?.getD 0) : cmp x y = 1 := by
  have hx := split_at hk
  have hy := split_at (x := y) (k := k) (by omega)
  rw [← he] at hy
  unfold cmp
  rw [if_neg (by omega), if_neg (by omega), lex_of hx hy]
  have : ¬ x[k]?.getD 0 < y[k]?.getD 0 := by omega
  simp [lex, h, this]
theorem take_snoc_eq {x y : List Int} {k : Nat} (hk : k < x.length) (hk' : k < y.length) (he : x.take k = y.take k) (h : x[k]?.getD 0 = y[k]?.getD 0) : x.take (k + 1) = y.take (k + 1) := by
  rw [List.getElem?_eq_getElem hk, List.getElem?_eq_getElem hk'] at h
  rw [List.take_succ_eq_append_getElem hk, List.take_succ_eq_append_getElem hk', he]
  simp only [Option.getD_some] at h
  rw [h]
theorem cmp_short {x y : List Int} (h : x.length < y.length) : cmp x y = -1 := by simp [cmp, h]
theorem cmp_long {x y : List Int} (h : y.length < x.length) : cmp x y = 1 := by
  unfold cmp
  rw [if_neg (by omega), if_pos h]
theorem lex_zero_iff {x y : List Int} (h : x.length = y.length) : lex x y = 0 ↔ x = y := by
  induction x generalizing y with
  | nil =>
    have : y = [] := List.eq_nil_of_length_eq_zero (by simpa using h.symm)
    subst this
    simp [lex]
  | cons c x ih =>
    cases y with
    | nil => simp at h
    | cons d y =>
      simp only [lex]
      by_cases h1 : c < d
      · simp [h1]; omega
      · by_cases h2 : d < c
        · simp [h1, h2]; omega
        · have : c = d := by omega
          subst this
          simp [ih (by simpa using h)]

theorem cmp_zero_iff {x y : List Int} : cmp x y = 0 ↔ x = y := by
  unfold cmp
  by_cases h1 : x.length < y.length
  · simp [h1]; intro e; subst e; omega
  · by_cases h2 : y.length < x.length
    · simp [h1, h2]; intro e; subst e; omega
    · simp only [h1, h2, if_false]
      exact lex_zero_iff (by omega)
theorem cmp_self (x : List Int) : cmp x x = 0 := cmp_zero_iff.2 rfl
theorem cmp_end {x y : List Int} {k : Nat} (hx : x.length ≤ k) (hy : y.length ≤ k) (he : x.take k = y.take k) : cmp x y = 0 := by
  rw [List.take_of_length_le hx, List.take_of_length_le hy] at he
  exact cmp_zero_iff.2 he
/-- The order of two numbers. -/
def sgn (a b : Int) : Int := if a < b then -1 else if b < a then 1 else 0
theorem sgn_lt {a b : Int} (h : a < b) : sgn a b = -1 := by simp [sgn, h]
theorem sgn_gt {a b : Int} (h : b < a) : sgn a b = 1 := by
  have : ¬ a < b := by omega
  simp [sgn, h, this]
theorem sgn_eq {a b : Int} (h : a = b) : sgn a b = 0 := by simp [sgn, h]
theorem lex_range (x y : List Int) : lex x y = -1 ∨ lex x y = 0 ∨ lex x y = 1 := by
  induction x generalizing y with
  | nil => simp [lex]
  | cons c x ih =>
    cases y with
    | nil => simp [lex]
    | cons d y =>
      simp only [lex]
      split
      · simp
      · split
        · simp
        · exact ih y
theorem cmp_range (x y : List Int) : cmp x y = -1 ∨ cmp x y = 0 ∨ cmp x y = 1 := by
  unfold cmp
  split
  · simp
  · split
    · simp
    · exact lex_range x y
/-- Are two lists equal? -/
def same (x y : List Int) : Bool := decide (x = y)
theorem same_def {x y : List Int} : (cmp x y == 0) = same x y := by
  unfold same
  rw [Bool.eq_iff_iff]
  simp [cmp_zero_iff]
theorem same_yes {x y : List Int} (h : x = y) : same x y = true := by simp [same, h]
theorem same_no {x y : List Int} (h : x ≠ y) : same x y = false := by simp [same, h]
theorem ne_of_len {x y : List Int} (h : x.length ≠ y.length) : x ≠ y := fun e => h (by rw [e])
theorem ne_of_at {x y : List Int} {k : Nat} (h : x[k]?.getD 0 ≠ y[k]?.getD 0) : x ≠ y := fun e => h (by rw [e])
/-- Is the first list a prefix of the second one? -/
def pre (x y : List Int) : Bool := x.isPrefixOf y
def preI (x y : List Int) : Int := if pre x y then 1 else 0
theorem pre_long {x y : List Int} (h : y.length < x.length) : pre x y = false := by
  unfold pre
  cases hp : x.isPrefixOf y
  · rfl
  · have := (List.isPrefixOf_iff_prefix.1 hp).length_le; omega
theorem pre_same {x y : List Int} (_h : x.length ≤ y.length) : pre x y = same x (y.take x.length) := by
  unfold pre same
  rw [Bool.eq_iff_iff, List.isPrefixOf_iff_prefix, List.prefix_iff_eq_take]
  simp
theorem preI_yes {x y : List Int} (h : x = y.take x.length) : preI x y = 1 := by
  have : pre x y = true := by unfold pre; rw [List.isPrefixOf_iff_prefix, List.prefix_iff_eq_take]; exact h
  simp [preI, this]
theorem preI_no {x y : List Int} {k : Nat} (hk : k < x.length) (h : x[k]?.getD 0 ≠ y[k]?.getD 0) : preI x y = 0 := by
  have : pre x y = false := by
    cases hp : pre x y
    · rfl
    · unfold pre at hp
      rw [List.isPrefixOf_iff_prefix] at hp
      obtain ⟨t, rfl⟩ := hp
      exact absurd (by rw [List.getElem?_append_left hk]) h
  simp [preI, this]
theorem preI_long {x y : List Int} (h : y.length < x.length) : preI x y = 0 := by simp [preI, pre_long h]
/-- The symbols of a word as plain data. -/
def sym (n : Int) (zs : List Int) : List Int := (zs.take 12).map (· % n)
end Go.Proofs.Ytjodhihcckcefaa.M

namespace Go.Proofs.Ytjodhihcckcefaa.M

/-- The rank that is reached from r behind the symbols of zs. -/
def rkF (n : Int) (r : Int) (zs : List Int) : Int := zs.foldl (fun r z => r * n + (z + 1)) r
/-- The rank of a word. -/
def rk (n : Int) (zs : List Int) : Int := rkF n 0 zs
/-- A list of symbols. -/
def Val (n : Int) (zs : List Int) : Prop := ∀ z ∈ zs, 0 ≤ z ∧ z < n

theorem rkF_nil (n r : Int) : rkF n r [] = r := rfl
theorem rkF_cons (n r z : Int) (zs : List Int) : rkF n r (z :: zs) = rkF n (r * n + (z + 1)) zs := rfl
theorem rkF_app (n r : Int) (x y : List Int) : rkF n r (x ++ y) = rkF n (rkF n r x) y := by simp [rkF, List.foldl_append]
theorem rk_nil (n : Int) : rk n [] = 0 := rfl
theorem rk_snoc (n z : Int) (zs : List Int) : rk n (zs ++ [z]) = rk n zs * n + (z + 1) := by simp [rk, rkF_app, rkF_cons, rkF_nil]
theorem Val.cons {n z : Int} {zs : List Int} (h : Val n (z :: zs)) : (0 ≤ z ∧ z < n) ∧ Val n zs := ⟨h z (by simp), fun y hy => h y (by simp [hy])⟩
theorem Val.app {n : Int} {x y : List Int} (h : Val n (x ++ y)) : Val n x ∧ Val n y := ⟨fun z hz => h z (by simp [hz]), fun z hz => h z (by simp [hz])⟩
theorem Val.mk_app {n : Int} {x y : List Int} (h : Val n x) (k : Val n y) : Val n (x ++ y) := fun z hz => by
  rcases List.mem_append.1 hz with h1 | h1
  · exact h z h1
  · exact k z h1
theorem Val.one {n z : Int} (h : 0 ≤ z ∧ z < n) : Val n [z] := fun y hy => by
  rw [List.mem_singleton] at hy
  subst hy
  exact h
theorem Val.take {n : Int} {zs : List Int} (h : Val n zs) (k : Nat) : Val n (zs.take k) := fun z hz => h z (List.mem_of_mem_take hz)
theorem Val.at_ {n : Int} {zs : List Int} (h : Val n zs) {k : Nat} (hk : k < zs.length) : 0 ≤ zs[k]?.getD 0 ∧ zs[k]?.getD 0 < n := by
  rw [List.getElem?_eq_getElem hk]
  exact h _ (List.getElem_mem hk)

theorem rkF_ge {n : Int} (hn : 1 ≤ n) {zs : List Int} (hv : Val n zs) : ∀ {r : Int}, 0 ≤ r → r + zs.length ≤ rkF n r zs := by
  induction zs with
  | nil => intro r _; simp [rkF_nil]
  | cons z zs ih =>
    intro r hr
    obtain ⟨hz, hv'⟩ := hv.cons
    have h1 : r * 1 ≤ r * n := Int.mul_le_mul_of_nonneg_left hn hr
    have := ih hv' (r := r * n + (z + 1)) (by omega)
    rw [rkF_cons]
    simp only [List.length_cons]
    omega
theorem rk_ge {n : Int} (hn : 1 ≤ n) {zs : List Int} (hv : Val n zs) : (zs.length : Int) ≤ rk n zs := by
  have := rkF_ge hn hv (r := 0) (by omega)
  unfold rk
  omega
theorem rk_take_le {n : Int} (hn : 1 ≤ n) {zs : List Int} (hv : Val n zs) (k : Nat) : rk n (zs.take k) ≤ rk n zs := by
  have hx : zs = zs.take k ++ zs.drop k := (List.take_append_drop k zs).symm
  have hv2 : Val n (zs.take k) ∧ Val n (zs.drop k) := Val.app (by rw [← hx]; exact hv)
  have h0 := rk_ge hn hv2.1
  have h1 := rkF_ge hn hv2.2 (r := rk n (zs.take k)) (by omega)
  have h2 : rk n zs = rkF n (rk n (zs.take k)) (zs.drop k) := by
    show rkF n 0 zs = rkF n (rkF n 0 (zs.take k)) (zs.drop k)
    rw [← rkF_app, ← hx]
  omega

theorem rkF_lt {n : Int} (hn : 1 ≤ n) {x y : List Int} (hl : x.length = y.length) (hx : Val n x) (hy : Val n y) : ∀ {r s : Int}, r < s → rkF n r x < rkF n s y := by
  induction x generalizing y with
  | nil =>
    intro r s h
    have : y = [] := List.eq_nil_of_length_eq_zero (by simpa using hl.symm)
    subst this
    exact h
  | cons a x ih =>
    intro r s h
    cases y with
    | nil => simp at hl
    | cons b y =>
      obtain ⟨ha, hx'⟩ := hx.cons
      obtain ⟨hb, hy'⟩ := hy.cons
      rw [rkF_cons, rkF_cons]
      refine ih (by simpa using hl) hx' hy' ?_
      have h1 : (r + 1) * n ≤ s * n := Int.mul_le_mul_of_nonneg_right (by omega) (by omega)
      rw [Int.add_mul] at h1
      omega
theorem rkF_lex {n : Int} (hn : 1 ≤ n) {x y : List Int} (hl : x.length = y.length) (hx : Val n x) (hy : Val n y) : ∀ {r : Int}, lex x y = -1 → rkF n r x < rkF n r y := by
  induction x generalizing y with
  | nil => intro r h; simp [lex] at h
  | cons a x ih =>
    intro r h
    cases y with
    | nil => simp at hl
    | cons b y =>
      obtain ⟨ha, hx'⟩ := hx.cons
      obtain ⟨hb, hy'⟩ := hy.cons
      rw [rkF_cons, rkF_cons]
      simp only [lex] at h
      by_cases h1 : a < b
      · exact rkF_lt hn (by simpa using hl) hx' hy' (by omega)
      · rw [if_neg h1] at h
        by_cases h2 : b < a
        · rw [if_pos h2] at h; simp at h
        · rw [if_neg h2] at h
          have : a = b := by omega
          subst this
          exact ih (by simpa using hl) hx' hy' h
theorem rk_short {n : Int} (hn : 1 ≤ n) {x y : List Int} (hl : x.length < y.length) (hx : Val n x) (hy : Val n y) : rk n x < rk n y := by
  have hs : y = y.take (y.length - x.length) ++ y.drop (y.length - x.length) := (List.take_append_drop _ y).symm
  have hv2 : Val n (y.take (y.length - x.length)) ∧ Val n (y.drop (y.length - x.length)) := Val.app (by rw [← hs]; exact hy)
  have h0 := rk_ge hn hv2.1
  have h3 : 0 < (y.take (y.length - x.length)).length := by rw [List.length_take]; omega
  have h2 : rk n y = rkF n (rk n (y.take (y.length - x.length))) (y.drop (y.length - x.length)) := by
    show rkF n 0 y = rkF n (rkF n 0 _) _
    rw [← rkF_app, ← hs]
  rw [h2]
  exact rkF_lt hn (by rw [List.length_drop]; omega) hx hv2.2 (by omega)
theorem lex_swap {x y : List Int} (h : lex x y = 1) : lex y x = -1 := by
  induction x generalizing y with
  | nil => simp [lex] at h
  | cons a x ih =>
    cases y with
    | nil => simp [lex] at h
    | cons b y =>
      simp only [lex] at h ⊢
      by_cases h1 : a < b
      · rw [if_pos h1] at h; simp at h
      · rw [if_neg h1] at h
        by_cases h2 : b < a
        · rw [if_pos h2]
        · rw [if_neg h2] at h
          rw [if_neg h2, if_neg h1]
          exact ih h
theorem lex_swap' {x y : List Int} (h : lex x y = -1) : lex y x = 1 := by
  induction x generalizing y with
  | nil => simp [lex] at h
  | cons a x ih =>
    cases y with
    | nil => simp [lex] at h
    | cons b y =>
      simp only [lex] at h ⊢
      by_cases h1 : a < b
      · have : ¬ b < a := by omega
        rw [if_neg this, if_pos h1]
      · rw [if_neg h1] at h
        by_cases h2 : b < a
        · rw [if_pos h2] at h; simp at h
        · rw [if_neg h2] at h
          rw [if_neg h2, if_neg h1]
          exact ih h
/-- The order of words is that of their ranks. -/
theorem rk_cmp {n : Int} (hn : 1 ≤ n) {x y : List Int} (hx : Val n x) (hy : Val n y) : cmp x y = sgn (rk n x) (rk n y) := by
  unfold cmp
  by_cases h1 : x.length < y.length
  · rw [if_pos h1, sgn_lt (rk_short hn h1 hx hy)]
  · rw [if_neg h1]
    by_cases h2 : y.length < x.length
    · rw [if_pos h2, sgn_gt (rk_short hn h2 hy hx)]
    · rw [if_neg h2]
      rcases lex_range x y with h | h | h
      · rw [h, sgn_lt (show rk n x < rk n y from rkF_lex hn (by omega) hx hy h)]
      · rw [h, sgn_eq (by rw [(lex_zero_iff (by omega)).1 h])]
      · rw [h, sgn_gt (show rk n y < rk n x from rkF_lex hn (by omega) hy hx (lex_swap h))]

/-! ### The next word -/
def succR (n : Int) : List Int → List Int
  | [] => [0]
  | z :: t => if z < n - 1 then (z + 1) :: t else 0 :: succR n t
/-- The next list. -/
def next (n : Int) (zs : List Int) : List Int := (succR n zs.reverse).reverse
theorem next_nil (n : Int) : next n [] = [0] := rfl
theorem next_up {n z : Int} {p : List Int} (h : z < n - 1) : next n (p ++ [z]) = p ++ [z + 1] := by simp [next, succR, h]
theorem next_over {n z : Int} {p : List Int} (h : ¬ z < n - 1) : next n (p ++ [z]) = next n p ++ [0] := by simp [next, succR, h]
theorem next_val {n : Int} (hn : 1 ≤ n) : ∀ (k : Nat) (zs : List Int), zs.length = k → Val n zs → Val n (next n zs) ∧ rk n (next n zs) = rk n zs + 1 ∧ zs.length ≤ (next n zs).length ∧ (next n zs).length ≤ zs.length + 1 := by
  intro k
  induction k with
  | zero =>
    intro zs hl _
    have : zs = [] := List.eq_nil_of_length_eq_zero hl
    subst this
    rw [next_nil]
    exact ⟨Val.one (by omega), by simp [rk, rkF], by simp, by simp⟩
  | succ k ih =>
    intro zs hl hv
    rcases List.eq_nil_or_concat zs with rfl | ⟨p, z, rfl⟩
    · simp at hl
    · rw [List.concat_eq_append] at hv hl ⊢
      obtain ⟨hp, hz⟩ := hv.app
      have hz := hz z (by simp)
      obtain ⟨h1, h2, h3, h4⟩ := ih p (by simpa using hl) hp
      by_cases h : z < n - 1
      · rw [next_up h]
        exact ⟨hp.mk_app (Val.one (by omega)), by rw [rk_snoc, rk_snoc]; omega, by simp, by simp⟩
      · rw [next_over h]
        refine ⟨h1.mk_app (Val.one (by omega)), ?_, by simp; omega, by simp; omega⟩
        rw [rk_snoc, rk_snoc, h2, Int.add_mul]
        omega
theorem check_zero {zs : List Int} {n : Int} (h : check zs n = 0) : n ≤ 16 ∧ 1 ≤ n ∧ zs.length ≤ 256 ∧ Val n zs := by
  unfold check at h
  by_cases h1 : 16 < n ∨ 256 < zs.length
  · rw [if_pos h1] at h; omega
  · rw [if_neg h1] at h
    by_cases h2 : n < 1
    · rw [if_pos h2] at h; omega
    · rw [if_neg h2] at h
      refine ⟨by omega, by omega, by omega, fun z hz => ?_⟩
      cases hb : badB n z
      · exact badB_false (by simp [hb])
      · have : zs.any (badB n) = true := List.any_eq_true.2 ⟨z, hz, hb⟩
        simp [badI, this] at h
theorem check_mk {zs : List Int} {n : Int} (h1 : n ≤ 16) (h2 : 1 ≤ n) (h3 : zs.length ≤ 256) (hv : Val n zs) : check zs n = 0 := by
  rw [check_in h1 h3 h2]
  apply badI_clean
  rw [List.any_eq_false]
  intro z hz
  have := hv z hz
  simp [badB]
  omega

/-! ### Every rank has a word -/
theorem exists_word {n : Int} (hn : 2 ≤ n) : ∀ (L : Nat) (r : Int), 0 ≤ r → r < 2 ^ L → ∃ zs, Val n zs ∧ rk n zs = r ∧ zs.length ≤ L := by
  intro L
  induction L with
  | zero => intro r h0 h1; exact ⟨[], fun _ h => by simp at h, by simp [rk_nil]; omega, by simp⟩
  | succ L ih =>
    intro r h0 h1
    by_cases hr : r = 0
    · exact ⟨[], fun _ h => by simp at h, by simp [rk_nil, hr], by simp⟩
    · have hp : (0 : Int) ≤ 2 ^ L := Int.pow_nonneg (by omega)
      have hm : (2 : Int) ^ L * 2 ≤ 2 ^ L * n := Int.mul_le_mul_of_nonneg_left hn hp
      obtain ⟨zs, hv, hk, hl⟩ := ih ((r - 1) / n) (Int.ediv_nonneg (by omega) (by omega)) (by
        have : (2 : Int) ^ (L + 1) = 2 ^ L * 2 := by rw [Int.pow_succ]
        exact Int.ediv_lt_of_lt_mul (by omega) (by omega))
      refine ⟨zs ++ [(r - 1) % n], hv.mk_app (Val.one ⟨Int.emod_nonneg _ (by omega), Int.emod_lt_of_pos _ (by omega)⟩), ?_, by simp; omega⟩
      rw [rk_snoc, hk]
      have := Int.emod_add_mul_ediv (r - 1) n
      rw [Int.mul_comm] at this
      omega
theorem exists_word_one : ∀ (L : Nat), ∃ zs, Val 1 zs ∧ rk 1 zs = L ∧ zs.length = L := by
  intro L
  induction L with
  | zero => exact ⟨[], fun _ h => by simp at h, rfl, rfl⟩
  | succ L ih =>
    obtain ⟨zs, hv, hk, hl⟩ := ih
    exact ⟨zs ++ [0], hv.mk_app (Val.one (by omega)), by rw [rk_snoc, hk]; omega, by simp [hl]⟩

/-! ### The reference's rank -/
def rrF (n : Int) (zs : List Int) : Nat → Int
  | 0 => 0
  | k + 1 => rrF n zs k + (n ^ k + (zs[k]?.getD 0) * n ^ (zs.length - 1 - k))
theorem rrF_step (n z : Int) (zs : List Int) : ∀ k, k ≤ zs.length → rrF n (zs ++ [z]) k = n * rrF n zs k + 1 - n ^ k := by
  intro k
  induction k with
  | zero => intro _; simp [rrF]
  | succ k ih =>
    intro hk
    have e1 : (zs ++ [z])[k]? = zs[k]? := List.getElem?_append_left (by omega)
    have e2 : (zs ++ [z]).length - 1 - k = (zs.length - 1 - k) + 1 := by simp; omega
    simp only [rrF]
    rw [ih (by omega), e1, e2, Int.pow_succ, Int.pow_succ]
    grind
theorem rrF_rk (n : Int) : ∀ (k : Nat) (zs : List Int), zs.length = k → rrF n zs zs.length = rk n zs := by
  intro k
  induction k with
  | zero =>
    intro zs hl
    have : zs = [] := List.eq_nil_of_length_eq_zero hl
    subst this
    rfl
  | succ k ih =>
    intro zs hl
    rcases List.eq_nil_or_concat zs with rfl | ⟨p, z, rfl⟩
    · simp at hl
    · rw [List.concat_eq_append] at hl ⊢
      have hp := ih p (by simpa using hl)
      have e0 : (p ++ [z]).length = p.length + 1 := by simp
      have e1 : (p ++ [z])[p.length]? = some z := by simp
      rw [rk_snoc, ← hp, e0]
      simp only [rrF]
      rw [rrF_step n z p p.length (Nat.le_refl _), e1, e0, show p.length + 1 - 1 - p.length = 0 by omega]
      simp
      grind
theorem pow_bounds {n : Int} (h1 : 1 ≤ n) (h2 : n ≤ 6) : ∀ k : Nat, 1 ≤ n ^ k ∧ n ^ k ≤ 6 ^ k := by
  intro k
  induction k with
  | zero => simp
  | succ k ih =>
    rw [Int.pow_succ, Int.pow_succ]
    have a : 1 * 1 ≤ n ^ k * n := Int.mul_le_mul ih.1 h1 (by omega) (by omega)
    have b : n ^ k * n ≤ 6 ^ k * 6 := Int.mul_le_mul ih.2 h2 (by omega) (by omega)
    exact ⟨by omega, b⟩
/-! ### The state of following behind k rounds -/
def Fol (n : Int) (zs : List Int) (k : Nat) (cur : List Int) : Prop := cur = zs.take (zs.length - k) ++ List.replicate k 0 ∧ next n zs = next n (zs.take (zs.length - k)) ++ List.replicate k 0
theorem Fol.start (n : Int) (zs : List Int) : Fol n zs 0 zs := by simp [Fol]
theorem Fol.len {n : Int} {zs cur : List Int} {k : Nat} (h : Fol n zs k cur) (hk : k ≤ zs.length) : cur.length = zs.length := by
  rw [h.1]
  simp
  omega
theorem Fol.split {n : Int} {zs cur : List Int} {k : Nat} (h : Fol n zs k cur) (hk : k < zs.length) : ∃ p z, p.length = zs.length - 1 - k ∧ p = zs.take (zs.length - (k + 1)) ∧ cur = p ++ z :: List.replicate k 0 ∧ next n zs = next n (p ++ [z]) ++ List.replicate k 0 ∧ cur[zs.length - 1 - k]?.getD 0 = z := by
  have e : zs.take (zs.length - k) = zs.take (zs.length - (k + 1)) ++ [zs[zs.length - (k + 1)]?.getD 0] := by
    rw [show zs.length - k = (zs.length - (k + 1)) + 1 by omega, List.take_add_one, List.getElem?_eq_getElem (by omega)]
    rfl
  have hl : (zs.take (zs.length - (k + 1))).length = zs.length - 1 - k := by rw [List.length_take]; omega
  refine ⟨_, zs[zs.length - (k + 1)]?.getD 0, hl, rfl, by rw [h.1, e]; simp, by rw [h.2, e], ?_⟩
  rw [h.1, e, ← hl]
  simp
theorem Fol.val {n : Int} {zs cur : List Int} {k : Nat} {z : Int} (h : Fol n zs k cur) (hk : k < zs.length) (hz : cur[zs.length - 1 - k]?.getD 0 = z) (hv : Val n zs) : 0 ≤ z ∧ z < n := by
  have e : cur[zs.length - 1 - k]? = zs[zs.length - 1 - k]? := by
    rw [h.1, List.getElem?_append_left (by rw [List.length_take]; omega), List.getElem?_take, if_pos (by omega)]
  rw [← hz, e]
  exact hv.at_ (by omega)
theorem set_mid (p q : List Int) (z v : Int) : (p ++ z :: q).set p.length v = p ++ v :: q := by simp
theorem Fol.up {n : Int} {zs cur : List Int} {k : Nat} {z : Int} (h : Fol n zs k cur) (hk : k < zs.length) (hz : cur[zs.length - 1 - k]?.getD 0 = z) (hlt : z < n - 1) : next n zs = cur.set (zs.length - 1 - k) (z + 1) := by
  obtain ⟨p, y, hp, _, hc, hn, hy⟩ := h.split hk
  obtain rfl : z = y := by rw [← hz, hy]
  rw [hn, next_up hlt, hc, ← hp, set_mid]
  simp
theorem Fol.over {n : Int} {zs cur : List Int} {k : Nat} {z : Int} (h : Fol n zs k cur) (hk : k < zs.length) (hz : cur[zs.length - 1 - k]?.getD 0 = z) (hlt : ¬ z < n - 1) : Fol n zs (k + 1) (cur.set (zs.length - 1 - k) 0) := by
  obtain ⟨p, y, hp, hp2, hc, hn, hy⟩ := h.split hk
  obtain rfl : z = y := by rw [← hz, hy]
  refine ⟨?_, ?_⟩
  · rw [hc, ← hp, set_mid, ← hp2, List.replicate_succ]
  · rw [hn, next_over hlt, ← hp2, List.replicate_succ]
    simp
theorem Fol.done {n : Int} {zs cur : List Int} (h : Fol n zs zs.length cur) : next n zs = List.replicate (zs.length + 1) 0 := by
  rw [h.2]
  simp [next_nil, List.replicate_succ]
/-! ### The states of At -/
theorem rk_peel {n : Int} {zs : List Int} (h1 : 1 ≤ n) (hv : Val n zs) {j : Nat} (hj : j < zs.length) : ∃ z, zs[zs.length - 1 - j]?.getD 0 = z ∧ 0 ≤ z ∧ z < n ∧ 1 ≤ rk n (zs.take (zs.length - j)) ∧ (rk n (zs.take (zs.length - j)) - 1) / n = rk n (zs.take (zs.length - (j + 1))) ∧ (rk n (zs.take (zs.length - j)) - 1) % n = z ∧ 0 ≤ rk n (zs.take (zs.length - (j + 1))) ∧ zs.take (zs.length - j) = zs.take (zs.length - (j + 1)) ++ [z] := by
  have e : zs.take (zs.length - j) = zs.take (zs.length - (j + 1)) ++ [zs[zs.length - (j + 1)]?.getD 0] := by
    rw [show zs.length - j = (zs.length - (j + 1)) + 1 by omega, List.take_add_one, List.getElem?_eq_getElem (by omega)]
    rfl
  have hz := hv.at_ (k := zs.length - (j + 1)) (by omega)
  have h0 := rk_ge h1 (hv.take (zs.length - (j + 1)))
  have hm : 0 ≤ rk n (zs.take (zs.length - (j + 1))) * n := Int.mul_nonneg (by omega) (by omega)
  refine ⟨zs[zs.length - (j + 1)]?.getD 0, by rw [show zs.length - (j + 1) = zs.length - 1 - j by omega], hz.1, hz.2, ?_, ?_, ?_, by omega, e⟩
  · rw [e, rk_snoc]; omega
  · rw [e, rk_snoc, show rk n (zs.take (zs.length - (j + 1))) * n + (zs[zs.length - (j + 1)]?.getD 0 + 1) - 1 = zs[zs.length - (j + 1)]?.getD 0 + rk n (zs.take (zs.length - (j + 1))) * n by omega, Int.add_mul_ediv_right _ _ (by omega), Int.ediv_eq_zero_of_lt hz.1 hz.2]
    omega
  · rw [e, rk_snoc, show rk n (zs.take (zs.length - (j + 1))) * n + (zs[zs.length - (j + 1)]?.getD 0 + 1) - 1 = zs[zs.length - (j + 1)]?.getD 0 + rk n (zs.take (zs.length - (j + 1))) * n by omega, Int.add_mul_emod_self_right, Int.emod_eq_of_lt hz.1 hz.2]
def Ats (zs : List Int) (j : Nat) (cur : List Int) : Prop := cur = List.replicate (zs.length - j) 0 ++ zs.drop (zs.length - j)
theorem Ats.start (zs : List Int) : Ats zs 0 (List.replicate zs.length 0) := by simp [Ats]
theorem Ats.len {zs cur : List Int} {j : Nat} (h : Ats zs j cur) : cur.length = zs.length := by
  rw [h]
  simp
theorem Ats.step {zs cur : List Int} {j : Nat} {z : Int} (h : Ats zs j cur) (hj : j < zs.length) (hz : zs[zs.length - 1 - j]?.getD 0 = z) : Ats zs (j + 1) (cur.set (zs.length - 1 - j) z) := by
  unfold Ats at h ⊢
  have e1 : List.replicate (zs.length - j) (0 : Int) = List.replicate (zs.length - 1 - j) 0 ++ [0] := by
    rw [show zs.length - j = (zs.length - 1 - j) + 1 by omega, List.replicate_succ']
  have e2 : zs.drop (zs.length - (j + 1)) = z :: zs.drop (zs.length - j) := by
    rw [List.getElem?_eq_getElem (by omega)] at hz
    rw [show zs.length - (j + 1) = zs.length - 1 - j by omega, List.drop_eq_getElem_cons (by omega), show zs.length - 1 - j + 1 = zs.length - j by omega]
    simp only [Option.getD_some] at hz
    rw [hz]
  have hs : ∀ (p q : List Int) (y v : Int) (m : Nat), p.length = m → (p ++ y :: q).set m v = p ++ v :: q := fun p q y v m hm => by subst hm; simp
  rw [h, e1, e2, List.append_assoc, List.singleton_append, hs _ _ _ _ _ (by simp), show zs.length - (j + 1) = zs.length - 1 - j by omega]
theorem Ats.done {zs cur : List Int} (h : Ats zs zs.length cur) : cur = zs := by
  rw [h]
  simp
/-- A power. -/
def pw (n : Int) (k : Nat) : Int := n ^ k
theorem pw_succ {n : Int} {k : Nat} : pw n (k + 1) = pw n k * n := Int.pow_succ n k
theorem pow6 {k : Nat} (h : k ≤ 12) : (6 : Int) ^ k ≤ 2176782336 := by
  have hh : ∀ j : Fin 13, (6 : Int) ^ j.val ≤ 2176782336 := by decide
  exact hh ⟨k, by omega⟩
theorem pw_bound {n : Int} (h1 : 1 ≤ n) (h2 : n ≤ 6) {k : Nat} (hk : k ≤ 12) : 1 ≤ pw n k ∧ pw n k ≤ 2176782336 := by
  have := pow_bounds h1 h2 k
  have h6 := pow6 hk
  unfold pw
  omega
theorem rrF_pw {n : Int} {zs : List Int} {k : Nat} : rrF n zs (k + 1) = rrF n zs k + (pw n k + (zs[k]?.getD 0) * pw n (zs.length - 1 - k)) := rfl
theorem rrF_bound {n : Int} (h1 : 1 ≤ n) (h2 : n ≤ 6) {zs : List Int} (hl : zs.length ≤ 12) (hv : Val n zs) : ∀ k : Nat, k ≤ zs.length → 0 ≤ rrF n zs k ∧ rrF n zs k ≤ k * 15237476352 := by
  intro k
  induction k with
  | zero => intro _; simp [rrF]
  | succ k ih =>
    intro hk
    obtain ⟨a, b⟩ := ih (by omega)
    have p1 := pw_bound h1 h2 (k := k) (by omega)
    have p2 := pw_bound h1 h2 (k := zs.length - 1 - k) (by omega)
    obtain ⟨z0, z1⟩ := hv.at_ (k := k) (by omega)
    have m0 : 0 ≤ zs[k]?.getD 0 * pw n (zs.length - 1 - k) := Int.mul_nonneg z0 (by omega)
    have m1 : zs[k]?.getD 0 * pw n (zs.length - 1 - k) ≤ 6 * 2176782336 := Int.mul_le_mul (by omega) p2.2 (by omega) (by omega)
    rw [rrF_pw]
    omega
/-- What Rank hands back. -/
def rankV (n : Int) (zs : List Int) : Int := if rk n zs ≤ 4611686018427387903 then rk n zs else 0
def rankE (n : Int) (zs : List Int) : Int := if rk n zs ≤ 4611686018427387903 then 0 else 3
theorem rankV_ok {n : Int} {zs : List Int} (h : rk n zs ≤ 4611686018427387903) : rankV n zs = rk n zs ∧ rankE n zs = 0 := by simp [rankV, rankE, h]
theorem rankV_no {n : Int} {zs : List Int} (h : ¬ rk n zs ≤ 4611686018427387903) : rankV n zs = 0 ∧ rankE n zs = 3 := by simp [rankV, rankE, h]
end Go.Proofs.Ytjodhihcckcefaa.M

namespace Go.Proofs.Ytjodhihcckcefaa.M

/-- The error of the first list that has one. -/
def ferr (n : Int) : List (List Int) → Int
  | [] => 0
  | r :: rs => if check r n = 0 then ferr n rs else check r n
/-- How many symbols there are together. -/
def total (rows : List (List Int)) : Nat := rows.flatten.length
/-- The row at a place. -/
def row (rows : List (List Int)) (k : Nat) : List Int := rows[k]?.getD []
theorem ferr_hit {n q : Int} {rows : List (List Int)} {k : Nat} (hk : k < rows.length) (h : ferr n (rows.take k) = 0) (hq : check (row rows k) n = q) (hq0 : q ≠ 0) : ferr n rows = q := by
  induction rows generalizing k with
  | nil => simp at hk
  | cons r rs ih =>
    cases k with
    | zero =>
      simp only [row, List.getElem?_cons_zero, Option.getD_some] at hq
      simp [ferr, hq, hq0]
    | succ k =>
      simp only [List.take_succ_cons, ferr] at h ⊢
      by_cases hr : check r n = 0
      · rw [if_pos hr] at h ⊢
        exact ih (by simpa using hk) h (by simpa [row] using hq)
      · rw [if_neg hr] at h
        exact absurd h hr
theorem ferr_snoc {n : Int} {rows : List (List Int)} {k : Nat} (hk : k < rows.length) (h : ferr n (rows.take k) = 0) (hq : check (row rows k) n = 0) : ferr n (rows.take (k + 1)) = 0 := by
  induction rows generalizing k with
  | nil => simp at hk
  | cons r rs ih =>
    cases k with
    | zero =>
      simp only [row, List.getElem?_cons_zero, Option.getD_some] at hq
      simp [ferr, hq]
    | succ k =>
      simp only [List.take_succ_cons, ferr] at h ⊢
      by_cases hr : check r n = 0
      · rw [if_pos hr] at h ⊢
        exact ih (by simpa using hk) h (by simpa [row] using hq)
      · rw [if_neg hr] at h
        exact absurd h hr
theorem ferr_row {n : Int} {rows : List (List Int)} {k : Nat} (hk : k < rows.length) (h : ferr n rows = 0) : check (row rows k) n = 0 := by
  induction rows generalizing k with
  | nil => simp at hk
  | cons r rs ih =>
    simp only [ferr] at h
    by_cases hr : check r n = 0
    · rw [if_pos hr] at h
      cases k with
      | zero => simpa [row] using hr
      | succ k => simpa [row] using ih (by simpa using hk) h
    · rw [if_neg hr] at h
      exact absurd h hr
theorem take_rows {rows : List (List Int)} {k : Nat} (hk : k < rows.length) : rows.take (k + 1) = rows.take k ++ [row rows k] := by
  rw [List.take_add_one, List.getElem?_eq_getElem hk]
  simp [row, List.getElem?_eq_getElem hk]
theorem total_snoc {rows : List (List Int)} {k : Nat} (hk : k < rows.length) : total (rows.take (k + 1)) = total (rows.take k) + (row rows k).length := by
  simp [total, take_rows hk]
theorem total_le {rows : List (List Int)} (k : Nat) : total (rows.take k) ≤ total rows := by
  have h : rows = rows.take k ++ rows.drop k := (List.take_append_drop k rows).symm
  have e : total rows = total (rows.take k) + (rows.drop k).flatten.length := by
    unfold total
    rw [← List.length_append, ← List.flatten_append, ← h]
  omega
/-- The state of Concat's second loop. -/
def Cat (rows : List (List Int)) (k : Nat) (cur : List Int) : Prop := cur = (rows.take k).flatten ++ List.replicate (total rows - total (rows.take k)) 0
theorem Cat.start (rows : List (List Int)) : Cat rows 0 (List.replicate (total rows) 0) := by simp [Cat, total]
theorem Cat.len {rows : List (List Int)} {k : Nat} {cur : List Int} (h : Cat rows k cur) : cur.length = total rows := by
  have := total_le (rows := rows) k
  rw [h, List.length_append, List.length_replicate]
  show total (rows.take k) + _ = _
  omega
theorem Cat.done {rows : List (List Int)} {cur : List Int} (h : Cat rows rows.length cur) : cur = rows.flatten := by
  rw [h]
  simp
theorem Cat.step {rows : List (List Int)} {k : Nat} {cur : List Int} (h : Cat rows k cur) (hk : k < rows.length) : Cat rows (k + 1) (cur.take (total (rows.take k)) ++ (row rows k ++ cur.drop (total (rows.take k) + (row rows k).length))) := by
  have h1 := total_snoc hk
  have h2 := total_le (rows := rows) (k + 1)
  have e1 : cur.take (total (rows.take k)) = (rows.take k).flatten := by rw [h]; exact List.take_left
  have e2 : cur.drop (total (rows.take k) + (row rows k).length) = List.replicate (total rows - total (rows.take (k + 1))) 0 := by
    rw [h, ← List.drop_drop, show total (rows.take k) = (rows.take k).flatten.length from rfl, List.drop_left, List.drop_replicate]
    congr 1
    show total rows - total (rows.take k) - _ = _
    omega
  unfold Cat
  rw [e1, e2, take_rows hk]
  simp
/-- What Concat hands back: the error, the word. -/
def catE (n : Int) (rows : List (List Int)) : Int := if ferr n rows = 0 then (if 256 < total rows then 3 else 0) else ferr n rows
def catV (n : Int) (rows : List (List Int)) : List Int := if catE n rows = 0 then rows.flatten else []
theorem cat_err {n q : Int} {rows : List (List Int)} (h : ferr n rows = q) (hq : q ≠ 0) : catE n rows = q ∧ catV n rows = [] := by
  have : catE n rows = q := by simp [catE, h, hq]
  exact ⟨this, by simp [catV, this, hq]⟩
theorem cat_limit {n : Int} {rows : List (List Int)} (h : ferr n rows = 0) (ht : 256 < total rows) : catE n rows = 3 ∧ catV n rows = [] := by
  have : catE n rows = 3 := by simp [catE, h, ht]
  exact ⟨this, by simp [catV, this]⟩
theorem cat_ok {n : Int} {rows : List (List Int)} (h : ferr n rows = 0) (ht : ¬ 256 < total rows) : catE n rows = 0 ∧ catV n rows = rows.flatten := by
  have : catE n rows = 0 := by simp [catE, h, ht]
  exact ⟨this, by simp [catV, this]⟩
end Go.Proofs.Ytjodhihcckcefaa.M
