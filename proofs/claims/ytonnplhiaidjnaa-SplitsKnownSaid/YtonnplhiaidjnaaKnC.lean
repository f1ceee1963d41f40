/-
  What the closed laws of layers 7 and 8 gather themselves: numbers, rows of edges. No statement is proved here.
-/
import Derived.Test.YtonnplhiaidjnaaRb1
namespace Go.Proofs.Ytonnplhiaidjnaa
open Go.RowKit
open Mc (Ed Ma)

/-! ### Numbers that the call itself gathers -/
def u16s (zs : List Int) : List Value := zs.map (Value.int .u16)
theorem u16s_len (zs : List Int) : (u16s zs).length = zs.length := by simp [u16s]
theorem u16s_snoc (zs : List Int) (z : Int) : u16s zs ++ [.int .u16 z] = u16s (zs ++ [z]) := by simp [u16s]
def u8s (zs : List Int) : List Value := zs.map (Value.int .u8)
theorem u8s_len (zs : List Int) : (u8s zs).length = zs.length := by simp [u8s]
theorem u8s_snoc (zs : List Int) (z : Int) : u8s zs ++ [.int .u8 z] = u8s (zs ++ [z]) := by simp [u8s]
theorem u16_info : (Try.prog.info? 62).map (fun i => (i.zero, i.size, i.bytes)) = some (some (.int .u16 0), 1, 2) := by kernel_rfl
theorem u8_info : (Try.prog.info? 5).map (fun i => (i.zero, i.size, i.bytes)) = some (some (.int .u8 0), 1, 1) := by kernel_rfl
theorem Rd16.of_own {w : World} {base : Nat} {A : Option Addr} {n c : Nat} {zs : List Int} (h : w.ownsRow base 62 1 (.slice A n c) n (u16s zs)) (hz : ∀ z ∈ zs, 0 ≤ z ∧ z ≤ 65535) : Rd16 w A zs := fun hp => by
  have hn : zs.length = n := by have := h.1; rw [u16s_len] at this; omega
  obtain ⟨g, cap, hv, _, hlt⟩ := h.form (by omega)
  have hA : A = some ⟨g, 0, none⟩ := by injection hv
  subst hA
  refine ⟨g, 0, rfl, hlt, fun k z hk => ⟨?_, hz z (List.mem_of_getElem? hk)⟩⟩
  have := h.cells (g := g) rfl k (.int .u16 z) (by simp [u16s, hk])
  rw [Nat.zero_add]
  rw [Addr.add_lit] at this
  simpa using this
theorem Rd8.of_own {w : World} {base : Nat} {A : Option Addr} {n c : Nat} {zs : List Int} (h : w.ownsRow base 5 1 (.slice A n c) n (u8s zs)) (hz : ∀ z ∈ zs, 0 ≤ z ∧ z ≤ 255) : Rd8 w A zs := fun hp => by
  have hn : zs.length = n := by have := h.1; rw [u8s_len] at this; omega
  obtain ⟨g, cap, hv, _, hlt⟩ := h.form (by omega)
  have hA : A = some ⟨g, 0, none⟩ := by injection hv
  subst hA
  refine ⟨g, 0, rfl, hlt, fun k hk => ?_⟩
  have hkz := hz zs[k] (List.getElem_mem hk)
  have := h.cells (g := g) rfl k (.int .u8 zs[k]) (by simp [u8s, List.getElem?_eq_getElem hk])
  rw [Addr.add_lit] at this
  rw [Nat.zero_add, List.getElem?_eq_getElem hk]
  exact ⟨by simpa using this, hkz.1, hkz.2⟩
theorem own_slice {w : World} {base n sz : Nat} {t : TypeId} {v : Value} {xs : List Value} (h : w.ownsRow base t sz v n xs) : ∃ A c, v = .slice A n c ∧ n ≤ c := by
  rcases h.2 with ⟨rfl, h0⟩ | ⟨g, cap, cur, rfl, _, _, hc, _⟩
  · exact ⟨none, 0, by rw [h0], by omega⟩
  · exact ⟨_, _, rfl, hc⟩
theorem u16_bd (r : Int) : 0 ≤ IntKind.u16.wrap r ∧ IntKind.u16.wrap r ≤ 65535 := by
  unfold IntKind.wrap
  simp [IntKind.bits, IntKind.signed]
  omega
theorem u8_bd (r : Int) : 0 ≤ IntKind.u8.wrap r ∧ IntKind.u8.wrap r ≤ 255 := by
  rw [IntKind.wrap_u8]
  omega
theorem rd8_lit (w : World) (zs : List Int) (hz : ∀ z ∈ zs, 0 ≤ z ∧ z ≤ 255) : Rd8 (w.alloc (.cells (zs.map (Value.int .u8)).toArray 5)) (some ⟨w.heap.size, 0, none⟩) zs := fun _ => by
  refine ⟨w.heap.size, 0, rfl, by simp, fun k hk => ?_⟩
  rw [World.cell?_alloc_at _ _ _ _ rfl, Nat.zero_add]
  have := hz zs[k] (List.getElem_mem hk)
  refine ⟨?_, by simpa [List.getElem?_eq_getElem hk] using this⟩
  simp [List.getElem?_eq_getElem hk]
theorem BxM.frozenK {w : World} {g n c : Nat} {i o : Int} {A : Option Addr} (h : BxM w g i o A n c) : w.frozen? ⟨g, 0, none⟩ = false ∧ w.frozen? ⟨g, 1, none⟩ = false ∧ w.frozen? ⟨g, 2, none⟩ = false := by
  unfold BxM at h
  refine ⟨?_, ?_, ?_⟩ <;> simp [World.frozen?, h]
theorem BxM.alK {w : World} {g n c : Nat} {i o : Int} {A : Option Addr} (h : BxM w g i o A n c) (ob : Obj) : BxM (w.alloc ob) g i o A n c := (Below.heap_alloc _ _ _ (heap_lt h)).trans h
/-- A row of one edge that was just laid. -/
theorem own_one (w : World) (base : Nat) (h : base ≤ w.heap.size) (x y : Int) : OwR (w.alloc (.cells #[.int .i64 x, .int .i64 y] 58)) base (.slice (some ⟨w.heap.size, 0, none⟩) 1 1) [(x, y)] :=
  ⟨rfl, .inr ⟨w.heap.size, 1, #[.int .i64 x, .int .i64 y], rfl, h, heap_alloc_new w _, Nat.le_refl _, by unfold maxLen; decide, rfl, rfl⟩⟩
/-- A row of two edges that was just laid. -/
theorem own_two (w : World) (base : Nat) (h : base ≤ w.heap.size) (x y u v : Int) : OwR (w.alloc (.cells #[.int .i64 x, .int .i64 y, .int .i64 u, .int .i64 v] 58)) base (.slice (some ⟨w.heap.size, 0, none⟩) 2 2) [(x, y), (u, v)] :=
  ⟨rfl, .inr ⟨w.heap.size, 2, #[.int .i64 x, .int .i64 y, .int .i64 u, .int .i64 v], rfl, h, heap_alloc_new w _, Nat.le_refl _, by unfold maxLen; decide, rfl, rfl⟩⟩
end Go.Proofs.Ytonnplhiaidjnaa
