/-
  Several texts in one: Rb1, Rb2, Rd1. No statement is proved here.
-/
import Derived.Test.YtiamkkgnjobljaaRsM
import Derived.Test.YtiamkkgnjobljaaSwZ
import Derived.Test.YtiamkkgnjobljaaSMdZ
import Derived.Test.YtiamkkgnjobljaaSkA
import Derived.Test.YtiamkkgnjobljaaMcT
import Derived.Test.YtiamkkgnjobljaaRmZ
namespace Go.Proofs.Ytiamkkgnjobljaa
open Go.RowKit
open Mc (Ed Ma)

theorem MK.putP {E : World → Prop} {w w1 : World} {L : List (World → Prop)} (h : MK E w w1 L) {A : Option Addr} {l : List Ed} (hr : RdP w1 A l) : MK E w w1 ((fun w => RdP w A l) :: L) := h.put (fun _ _ h hb => h.below hb) hr

/-! ### The law's own edge and list -/
namespace Mc
abbrev z0 : List Ed := [(1, 0), (2, 0)]
abbrev z1 : List Ed := [(1, 0), (3, 0)]
abbrev z2 : List Ed := [(2, 0), (0, 1)]
abbrev z3 : List Ed := [(3, 0), (1, 1)]
abbrev RR : List (List Ed) := [z0, z1, z2, z3]
abbrev RM : Ma := ⟨2, 2, RR⟩
theorem RM_chk : chk RM = 0 := by decide +kernel
theorem RM_lst : lst RM = 1 := (lst_lst (by decide)).uniq ⟨by decide +kernel, fun k hk => by
  obtain rfl : k = 0 := by omega
  decide +kernel⟩
theorem RM_cls : cls RM = [0, 0, 1, 1] := by unfold cls; rw [RM_lst]; decide +kernel
end Mc
theorem rd_lit (w : World) (zs : List Int) : Rd (w.alloc (.cells (ints zs).toArray 3)) (some ⟨w.heap.size, 0, none⟩) zs := Rd.of_block (heap_alloc_new w _)
theorem rdp_lit (w : World) (l : List Ed) (c : Array Value) (hc : c = (eC l).toArray) : RdP (w.alloc (.cells c 27)) (some ⟨w.heap.size, 0, none⟩) l := fun hp => by
  subst hc
  refine ⟨w.heap.size, 0, rfl, by simp, fun k x hk => ?_⟩
  obtain ⟨h1, h2⟩ := eC_at hk
  have hcell : ∀ j v, (eC l)[j]? = some v → (w.alloc (.cells (eC l).toArray 27)).cell? ⟨w.heap.size, 0 + j, none⟩ = some v := fun j v hj => by
    rw [World.cell?_alloc_at _ _ _ _ rfl, Nat.zero_add]
    simpa using hj
  exact ⟨hcell _ _ h1, by have := hcell _ _ h2; rwa [← Nat.add_assoc] at this⟩
/-- A slice of rows, by what its cells hold. -/
theorem rdr_cells (w : World) (rs : List (List Ed)) (cs : Array Value) (h : ∀ (k : Nat) (row : List Ed), rs[k]? = some row → ∃ A : Addr, cs[k]? = some (Value.slice (some A) row.length row.length) ∧ RdP w (some A) row ∧ row.length ≤ maxLen) :
    RdR (w.alloc (.cells cs 51)) (some ⟨w.heap.size, 0, none⟩) rs := fun _ => by
  have hb : Below w.heap.size w (w.alloc (.cells cs 51)) := (Below.refl _ _).alloc (Nat.le_refl _) _
  refine ⟨w.heap.size, 0, rfl, by simp, fun j row hj => ?_⟩
  obtain ⟨A, h1, h2, h3⟩ := h j row hj
  refine ⟨some A, row.length, ?_, by omega, h3, fun e => by simp at e, h2.below hb⟩
  rw [World.cell?_alloc_at _ _ _ _ rfl, Nat.zero_add]
  exact h1
section
variable (A : Option Addr) (w : World)
end
end Go.Proofs.Ytiamkkgnjobljaa

namespace Go.Proofs.Ytiamkkgnjobljaa
open Go.RowKit
open Mc (Ed Ma)

end Go.Proofs.Ytiamkkgnjobljaa

namespace Go.Proofs.Ytiamkkgnjobljaa
open Go.RowKit
open Mc (Ed Ma)

theorem pow_le81 {i k : Nat} (hi : i ≤ 3) (hk : k ≤ 4) : i ^ k ≤ 81 :=
  Nat.le_trans (Nat.pow_le_pow_left hi k) (Nat.pow_le_pow_right (by omega) hk)
theorem mof_at (a b d : Int) (p : Bool) (A : Option Addr) (c : Nat) (es : List Int) (n i o : Nat) (w : World) (hr : Rd16 w A es) (hl : es.length ≤ 9223372036854775807) (ha : 0 ≤ a ∧ a ≤ 255) (hb : 0 ≤ b ∧ b ≤ 255) (hd : 0 ≤ d ∧ d ≤ 255)
    (hn : 1 + a % 6 = n) (hi : 1 + b % 3 = i) (ho : 1 + d % 3 = o) :
    Calls Try.prog 28 #[.agg #[.int .u8 a, .int .u8 b, .int .u8 d, .bool p, .slice A es.length c]] w fun e w' => ∃ B k, e = .returned (.agg #[.int .i64 i, .int .i64 o, .slice B n k]) ∧ RdR w' B (Mc.mkN p n i o es).r ∧ Below w.heap.size w w' := by
  refine (mof_any a b d p A c es n i o w hr hl ha hb hd hn hi ho).mono ?_
  rintro e w' ⟨V, vs, rfl, hB, hbl⟩
  obtain ⟨B, k, rfl, _, _, _, hrd⟩ := hB.out.rd
  rw [Mc.mkN_len]
  exact ⟨B, k, rfl, hrd, hbl⟩
section
variable (m : Ma) (i o : Int) (A : Option Addr) (n c : Nat) (w : World)
theorem rrun_at (s : Int) (W : Option Addr) (k d : Nat) (ws : List Int) (v : Mc.Val m) (hi : m.i = i) (ho : m.o = o) (hn : m.r.length = n) (hk : ws.length = k) (hr : RdR w A m.r) (hw : Rd w W ws) (hs : Mc.St m s) (hwd : Mc.Wd m ws) (hl : k ≤ 65536) :
    Calls Try.prog 19 #[.agg #[.int .i64 i, .int .i64 o, .slice A n c], .int .i64 s, .slice W k d] w fun e w' => ∃ B q, e = .returned (.slice B k q) ∧ Rd w' B (Mc.run m s ws) ∧ Below w.heap.size w w' := by
  subst hi ho hn hk
  refine (rrun_any m s A W c d ws w v hr hw hs hwd hl).mono ?_
  rintro e w' ⟨B, q, rfl, h1, _, h2⟩
  rw [Mc.run_len]
  exact ⟨B, q, rfl, h1, h2⟩
theorem same_at (X Y : Option Addr) (k c d : Nat) (x y : List Int) (hx : Rd w X x) (hy : Rd w Y y) (h1 : x.length = k) (h2 : y.length = k) (hk : k ≤ 1000000) :
    Calls Try.prog 18 #[.slice X k c, .slice Y k d] w fun e w' => e = .returned (.bool (M.same x y)) ∧ Below w.heap.size w w' := by
  subst h1
  have := same_any X Y c d x y w hx hy (by omega)
  rwa [h2] at this
end
namespace Mc
/-- So far the words of k symbols tell two states not apart. -/
def sam (m : Ma) (i k : Nat) (s t : Int) (j : Nat) : Bool := (List.range j).all fun q => M.same (run m s (dg i k q)) (run m t (dg i k q))
theorem sam_zero (m : Ma) (i k : Nat) (s t : Int) : sam m i k s t 0 = true := rfl
theorem sam_step (m : Ma) (i k : Nat) (s t : Int) (j : Nat) : sam m i k s t (j + 1) = (sam m i k s t j && M.same (run m s (dg i k j)) (run m t (dg i k j))) := by
  simp [sam, List.range_succ]
theorem sam_off {m : Ma} {i k : Nat} {s t : Int} {j j' : Nat} (h : sam m i k s t j = false) (hj : j ≤ j') : sam m i k s t j' = false := by
  unfold sam at h ⊢
  rw [← Bool.not_eq_true] at h ⊢
  intro h2
  apply h
  rw [List.all_eq_true] at h2 ⊢
  intro q hq
  exact h2 q (by simp at hq ⊢; omega)
theorem same_iff' {x y : List Int} : M.same x y = true ↔ x = y := by
  constructor
  · intro h
    by_cases e : x = y
    · exact e
    · rw [M.same_no e] at h; cases h
  · exact M.same_yes
theorem sam_all {m : Ma} (v : Val m) {i k s t : Nat} (hi : m.i = i) (hs : s < m.r.length) (ht : t < m.r.length) : sam m i k s t (i ^ k) = (M.gz (rnd m k) s == M.gz (rnd m k) t) := by
  have h0 : 0 < i := by have := v.i0; omega
  rw [Bool.eq_iff_iff, beq_iff_eq, rnd_iff v k hs ht, eqv_full hi h0]
  unfold sam
  rw [List.all_eq_true]
  constructor
  · intro h q hq
    exact same_iff'.1 (h q (by simpa using hq))
  · intro h q hq
    exact same_iff'.2 (h q (by simpa using hq))
end Mc
end Go.Proofs.Ytiamkkgnjobljaa
