/-
  What a walk of a law knows on its way; the law's own edge and list; the examples of the chapter, one call each. No statement is proved here.
-/
import Derived.Test.YtonnplhiaidjnaaRaF
import Derived.Test.YtonnplhiaidjnaaSMc10
namespace Go.Proofs.Ytonnplhiaidjnaa
open Go.RowKit
open Mc (Ed Ma)

/-- What is known on the way. -/
abbrev MT (w w' : World) (L : List (World → Prop)) : Prop := MK (fun _ => True) w w' L
section
variable {w w1 w2 : World} {L : List (World → Prop)}
theorem MT.start : MT w w [] := MK.start trivial
theorem MT.next (h : MT w w1 L) (hb : Below w1.heap.size w1 w2) : MT w w2 L := ⟨trivial, below_next h.2.1 hb, fun p hp => ⟨(h.2.2 p hp).1, (h.2.2 p hp).1 _ _ (h.2.2 p hp).2 hb⟩⟩
theorem MT.alloc (h : MT w w1 L) (o : Obj) : MT w (w1.alloc o) L := h.next ((Below.refl _ _).alloc (Nat.le_refl _) o)
theorem MT.putK (h : MT w w1 L) {P : World → Prop} (hp : P w1) (hk : Kept P) : MT w w1 (P :: L) := MK.put h hk hp
end
theorem MK.putP {E : World → Prop} {w w1 : World} {L : List (World → Prop)} (h : MK E w w1 L) {A : Option Addr} {l : List Ed} (hr : RdP w1 A l) : MK E w w1 ((fun w => RdP w A l) :: L) := h.put (fun _ _ h hb => h.below hb) hr

/-! ### The law's own edge and list -/
theorem edge_any (x y : Int) (w : World) : Calls Try.prog 30 #[.int .i64 x, .int .i64 y] w fun e w' => e = .returned (.agg #[.int .i64 x, .int .i64 y]) ∧ Below w.heap.size w w' := by
  go_enter Try.func30, Try.ntmps30
  go_wp2
  go_returns
  exact ⟨rfl, (Below.refl _ _).alloc (Nat.le_refl _) _⟩
theorem list_yes (A B : Option Addr) (n d : Nat) (x : List Int) (f : Int) (w : World) (hx : Rd w A x) (hy : Rd w B x) (hn : x.length = n) (hm : n ≤ 9223372036854775807) :
    Calls Try.prog 16 #[.slice A n n, .int .i64 f, .slice B n d, .int .i64 f] w fun e w' => e = .returned (.bool true) ∧ Below w.heap.size w w' := by
  subst hn
  have hs : Hid (M.same x x = true) := M.same_yes rfl
  have hff : (f == f) = true := by simp
  have hll : ((x.length : Int) == x.length) = true := by simp
  go_enter Try.func16, Try.ntmps16
  go_wp2_with fail
  refine (same_any _ _ _ _ _ _ _ hx hy hm).mono ?_
  rintro e w1 ⟨rfl, hb1⟩
  rw [hs.out]
  go_wp2
  go_ret
  exact ⟨rfl, hb1⟩

namespace Mc
abbrev z0 : List Ed := [(1, 0), (2, 0)]
abbrev z1 : List Ed := [(1, 0), (3, 0)]
abbrev z2 : List Ed := [(2, 0), (0, 1)]
abbrev z3 : List Ed := [(3, 0), (1, 1)]
abbrev RR : List (List Ed) := [z0, z1, z2, z3]
abbrev RM : Ma := ⟨2, 2, RR⟩
theorem RM_chk : chk RM = 0 := by decide +kernel
theorem RM_0 : rdV RM 0 = [0, 0, 0, 0] ∧ rdE RM 0 = 0 := by decide +kernel
theorem RM_1 : rdV RM 1 = [0, 0, 1, 1] ∧ rdE RM 1 = 0 := by decide +kernel
theorem RM_5 : rdV RM 5 = [0, 0, 1, 1] ∧ rdE RM 5 = 0 := by decide +kernel
theorem RM_m : rdV RM (-1) = [] ∧ rdE RM (-1) = 1 := by decide +kernel
theorem RM_lst : lst RM = 1 := (lst_lst (by decide)).uniq ⟨by decide +kernel, fun k hk => by
  obtain rfl : k = 0 := by omega
  decide +kernel⟩
theorem RM_cls : cls RM = [0, 0, 1, 1] := by unfold cls; rw [RM_lst]; decide +kernel
theorem RM_c : clV RM = [0, 0, 1, 1] ∧ clN RM = 1 := by unfold clV clN; rw [RM_cls, RM_lst, RM_chk]; decide
theorem RM_e1 : eqV RM 0 1 = true ∧ eqE RM 0 1 = 0 := by unfold eqV; rw [RM_cls]; decide +kernel
theorem RM_e2 : eqV RM 1 2 = false ∧ eqE RM 1 2 = 0 := by unfold eqV; rw [RM_cls]; decide +kernel
theorem RM_r0 : rsV RM [0, 0, 1, 1] = true ∧ rsE RM [0, 0, 1, 1] = 0 := by decide +kernel
theorem RM_r1 : rsV RM [0, 1, 2, 3] = true ∧ rsE RM [0, 1, 2, 3] = 0 := by decide +kernel
theorem RM_r2 : rsV RM [0, 0, 1, 2] = false ∧ rsE RM [0, 0, 1, 2] = 0 := by decide +kernel
theorem RM_r3 : rsV RM [0, 0, 0, 0] = false ∧ rsE RM [0, 0, 0, 0] = 0 := by decide +kernel
theorem RM_r4 : rsV RM [0, 1] = false ∧ rsE RM [0, 1] = 16 := by decide +kernel
theorem RM_r5 : rsV RM [1, 0, 0, 0] = false ∧ rsE RM [1, 0, 0, 0] = 1 := by decide +kernel
end Mc
theorem rd_lit (w : World) (zs : List Int) : Rd (w.alloc (.cells (ints zs).toArray 3)) (some ⟨w.heap.size, 0, none⟩) zs := Rd.of_block (heap_alloc_new w _)
theorem rdp_lit (w : World) (l : List Ed) (c : Array Value) (hc : c = (eC l).toArray) : RdP (w.alloc (.cells c 58)) (some ⟨w.heap.size, 0, none⟩) l := fun hp => by
  subst hc
  refine ⟨w.heap.size, 0, rfl, by simp, fun k x hk => ?_⟩
  obtain ⟨h1, h2⟩ := eC_at hk
  have hcell : ∀ j v, (eC l)[j]? = some v → (w.alloc (.cells (eC l).toArray 58)).cell? ⟨w.heap.size, 0 + j, none⟩ = some v := fun j v hj => by
    rw [World.cell?_alloc_at _ _ _ _ rfl, Nat.zero_add]
    simpa using hj
  exact ⟨hcell _ _ h1, by have := hcell _ _ h2; rwa [← Nat.add_assoc] at this⟩
/-- A slice of rows, by what its cells hold. -/
theorem rdr_cells (w : World) (rs : List (List Ed)) (cs : Array Value) (h : ∀ (k : Nat) (row : List Ed), rs[k]? = some row → ∃ A : Addr, cs[k]? = some (Value.slice (some A) row.length row.length) ∧ RdP w (some A) row ∧ row.length ≤ maxLen) :
    RdR (w.alloc (.cells cs 60)) (some ⟨w.heap.size, 0, none⟩) rs := fun _ => by
  have hb : Below w.heap.size w (w.alloc (.cells cs 60)) := (Below.refl _ _).alloc (Nat.le_refl _) _
  refine ⟨w.heap.size, 0, rfl, by simp, fun j row hj => ?_⟩
  obtain ⟨A, h1, h2, h3⟩ := h j row hj
  refine ⟨some A, row.length, ?_, by omega, h3, fun e => by simp at e, h2.below hb⟩
  rw [World.cell?_alloc_at _ _ _ _ rfl, Nat.zero_add]
  exact h1
theorem rdr_four (w : World) (A B C D : Addr) (h0 : RdP w (some A) Mc.z0) (h1 : RdP w (some B) Mc.z1) (h2 : RdP w (some C) Mc.z2) (h3 : RdP w (some D) Mc.z3) :
    RdR (w.alloc (.cells #[.slice (some A) 2 2, .slice (some B) 2 2, .slice (some C) 2 2, .slice (some D) 2 2] 60)) (some ⟨w.heap.size, 0, none⟩) Mc.RR :=
  rdr_cells w Mc.RR _ fun k row hk => by
    match k, hk with
    | 0, hk => simp at hk; subst hk; exact ⟨A, rfl, h0, by decide⟩
    | 1, hk => simp at hk; subst hk; exact ⟨B, rfl, h1, by decide⟩
    | 2, hk => simp at hk; subst hk; exact ⟨C, rfl, h2, by decide⟩
    | 3, hk => simp at hk; subst hk; exact ⟨D, rfl, h3, by decide⟩
theorem RR_len : ∀ row ∈ Mc.RR, row.length ≤ 1000000 := by decide
section
variable (A : Option Addr) (w : World)
theorem l_rounds (k : Int) (xs : List Int) (f : Int) (m : Nat) (h : Mc.rdV Mc.RM k = xs ∧ Mc.rdE Mc.RM k = f) (hm : xs.length = m) (hr : RdR w A Mc.RR) :
    Calls Try.prog 20 #[.agg #[.int .i64 2, .int .i64 2, .slice A 4 4], .int .i64 k] w fun e w' => ∃ B, e = .returned (.tuple #[.slice B m m, .int .i64 f]) ∧ Rd w' B xs ∧ Below w.heap.size w w' := by
  have := rounds_any 2 2 Mc.RR A 4 4 k w hr rfl (by decide) RR_len
  rw [h.1, h.2] at this
  subst hm
  exact this
theorem l_classes (hr : RdR w A Mc.RR) :
    Calls Try.prog 15 #[.agg #[.int .i64 2, .int .i64 2, .slice A 4 4]] w fun e w' => ∃ B, e = .returned (.tuple #[.slice B 4 4, .int .i64 1, .int .i64 0]) ∧ Rd w' B [0, 0, 1, 1] ∧ Below w.heap.size w w' := by
  have := classes_any 2 2 Mc.RR A 4 4 w hr rfl (by decide) RR_len
  rw [Mc.RM_c.1, Mc.RM_c.2, Mc.RM_chk] at this
  exact this
theorem l_equiv (s t : Int) (b : Bool) (h : Mc.eqV Mc.RM s t = b ∧ Mc.eqE Mc.RM s t = 0) (hr : RdR w A Mc.RR) :
    Calls Try.prog 24 #[.agg #[.int .i64 2, .int .i64 2, .slice A 4 4], .int .i64 s, .int .i64 t] w fun e w' => e = .returned (.tuple #[.bool b, .int .i64 0]) ∧ Below w.heap.size w w' := by
  have := equiv_any 2 2 Mc.RR A 4 4 s t w hr rfl (by decide) RR_len
  rw [h.1, h.2] at this
  exact this
theorem l_resp (P : Option Addr) (l d : Nat) (p : List Int) (b : Bool) (f : Int) (h : Mc.rsV Mc.RM p = b ∧ Mc.rsE Mc.RM p = f) (hl : p.length = l) (hr : RdR w A Mc.RR) (hp : Rd w P p) :
    Calls Try.prog 27 #[.agg #[.int .i64 2, .int .i64 2, .slice A 4 4], .slice P l d] w fun e w' => e = .returned (.tuple #[.bool b, .int .i64 f]) ∧ Below w.heap.size w w' := by
  have := respects_any 2 2 Mc.RR A P 4 4 d l p w hr rfl (by decide) RR_len hp hl
  rw [h.1, h.2] at this
  exact this
end
end Go.Proofs.Ytonnplhiaidjnaa
