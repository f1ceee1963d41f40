/-
  What the rows' last steps share: a list of pairs that came in. No statement is proved here.
-/
import Derived.Test.YtnodnfailjmpeaaMfZ
namespace Go.Proofs.Ytnodnfailjmpeaa
open Go.ChangeShapes Go.WideShapes Go.ChangeAt Go.RowKit
open Mc (Ed Ma)

section
variable {H : Type} {enc : TypeId × Value → H} {W : World}
theorem cellsP2 : Try.prog.cellsOf 81 = 2 := by kernel_rfl
set_option maxRecDepth 100000 in
theorem trod_P2 {n : Nat} {cs : List Value} {y : DataW H × List MemPlace} (h : DataW.trod enc Try.prog W 0 (fun _ => true) true n 81 cs = some y) : ∃ a b, cs = [.int .i64 a, .int .i64 b] := by
  obtain ⟨xs, m, _, _, hl2, hl, hg⟩ := DataW.trod_array Try.underlying81 h
  rw [cellsP2] at hl2
  match cs, hl2 with
  | [c0, c1], _ =>
    have g0 := hg 0 (by omega)
    have g1 := hg 1 (by omega)
    simp only [cellsI] at g0 g1
    rw [List.getElem?_eq_getElem (show 0 < xs.length by omega)] at g0
    rw [List.getElem?_eq_getElem (show 1 < xs.length by omega)] at g1
    replace g0 : DataW.trod enc Try.prog W 0 (fun _ => true) true m 3 [c0] = some xs[0] := by simpa using g0
    replace g1 : DataW.trod enc Try.prog W 0 (fun _ => true) true m 3 [c1] = some xs[1] := by simpa using g1
    obtain ⟨a, e0, _⟩ := DataW.trod_int Try.underlying3 g0
    obtain ⟨b, e1, _⟩ := DataW.trod_int Try.underlying3 g1
    simp at e0 e1
    subst e0 e1
    exact ⟨a, b, rfl⟩
set_option maxRecDepth 100000 in
/-- A list of pairs that came in. -/
theorem open_LP {v : Value} {d : DataW H} {p : List MemPlace} {base : Nat} (hv : Value.okWide Try.prog W .any base 75 v) (h : DataW.Trod enc Try.prog W 0 (fun _ => true) true 75 v d p) :
    ∃ (A : Option Addr) (c : Nat) (ps : List (Int × Int)), v = .slice A ps.length c ∧ RdP W A ps := by
  obtain ⟨fuel, h1⟩ := h
  have hs : v.cells.toList = [v] := by
    obtain ⟨a, len, cap, rfl⟩ := okWide_slice Try.underlying75 hv
    rfl
  rw [hs] at h1
  rcases Go.Deep.open_slice Try.underlying75 h1 with ⟨hcs, _⟩ | ⟨x, l, c, m, q, D, Pl, hcs, _, hl, hm, hmm, _, hx⟩
  · simp at hcs
    subst hcs
    exact ⟨none, 0, [], rfl, RdP.nil_⟩
  · simp at hcs
    subst hcs
    simp only [if_true] at hmm
    subst hmm
    have each : ∀ i, i < l → ∃ p : Ed, W.cell? (x.add (i * 2)) = some (.int .i64 p.1) ∧ W.cell? (x.add (i * 2 + 1)) = some (.int .i64 p.2) := fun i hi => by
      obtain ⟨cs, h1, h2⟩ := hx i (by omega)
      rw [cellsP2] at h1
      obtain ⟨a, b, rfl⟩ := trod_P2 h2
      obtain ⟨_, _, hc⟩ := World.cells?_some h1
      have c0 := hc 0 (by decide)
      have c1 := hc 1 (by decide)
      rw [Addr.add_add] at c0 c1
      exact ⟨(a, b), c0, c1⟩
    obtain ⟨f, hf⟩ := Go.Deep.choose_lt each
    have hlen : ((List.range l).map f).length = l := by simp
    refine ⟨some x, m, (List.range l).map f, by rw [hlen], fun hp => ?_⟩
    rw [hlen] at hp
    obtain ⟨b, off, rfl, hb⟩ := spot_none (hf 0 hp).1
    refine ⟨b, off, rfl, hb, fun k p hk => ?_⟩
    have hkl : k < l := by have := (List.getElem?_eq_some_iff.1 hk).1; rwa [hlen] at this
    have hfk : f k = p := by simpa [hkl] using hk
    obtain ⟨c1, c2⟩ := hf k hkl
    rw [Addr.add_lit] at c1 c2
    rw [hfk] at c1 c2
    exact ⟨c1, by rw [Nat.add_assoc]; exact c2⟩
end
end Go.Proofs.Ytnodnfailjmpeaa
