/-
  The chapter's examples of layer 10, one call each. No statement is proved here.
-/
import Derived.Test.YtiamkkgnjobljaaEb1
namespace Go.Proofs.Ytiamkkgnjobljaa
open Go.RowKit
open Mc (Ed Ma Wv)

namespace Mc
abbrev ea0 : List Ed := [(1, 0)]
abbrev ea1 : List Ed := [(2, 0)]
abbrev ea2 : List Ed := [(0, 1)]
abbrev eb2 : List Ed := [(3, 1)]
abbrev et0 : List Ed := [(0, 0), (0, 0)]
abbrev RA : List (List Ed) := [ea0, ea1, ea2]
abbrev RB : List (List Ed) := [ea0, ea1, eb2, ea0]
abbrev RC : List (List Ed) := [ea0, ea1, ea1]
abbrev RT : List (List Ed) := [et0]
abbrev EA : Ma := ⟨1, 2, RA⟩
abbrev EB : Ma := ⟨1, 2, RB⟩
abbrev EC : Ma := ⟨1, 2, RC⟩
abbrev ET : Ma := ⟨2, 1, RT⟩
theorem EA_val : Val EA := val_of (by decide +kernel)
theorem EB_val : Val EB := val_of (by decide +kernel)
theorem EC_val : Val EC := val_of (by decide +kernel)
theorem EAB_wk : wk (pr EA EB) 0 = [(0, []), (5, [0]), (10, [0, 0]), (3, [0, 0, 0])] := by decide +kernel
theorem EAC_wk : (wk (pr EA EC) 0).take 3 = [(0, []), (4, [0]), (8, [0, 0])] := by decide +kernel
theorem EAB_bf : BF (pr EA EB) 0 (wk (pr EA EB) 0) (wk (pr EA EB) 0).length 0 := wk_bfQ (pr_vq EA_val EB_val rfl) (by decide)
theorem EAC_bf : BF (pr EA EC) 0 (wk (pr EA EC) 0) (wk (pr EA EC) 0).length 0 := wk_bfQ (pr_vq EA_val EC_val rfl) (by decide)
theorem EAB_sim : Sim EA EB := sim_none EA_val EB_val rfl EAB_bf fun q y hy d h0 h1 => by
  have h1' : d < 1 := h1
  obtain rfl : d = 0 := by omega
  rw [EAB_wk] at hy
  have key : ∀ y ∈ ([(0, []), (5, [0]), (10, [0, 0]), (3, [0, 0, 0])] : List Wv), (nx EA (y.1 / 4) 0).2 = (nx EB (y.1 % 4) 0).2 := by decide +kernel
  exact key y (List.mem_of_getElem? hy)
theorem EAC_ldw : Ldw EA EC [0, 0, 0] := by
  have hat : ∀ q y, q < 3 → (wk (pr EA EC) 0)[q]? = some y → ([(0, []), (4, [0]), (8, [0, 0])] : List Wv)[q]? = some y := fun q y hq hy => by
    rw [← EAC_wk, List.getElem?_take, if_pos hq]
    exact hy
  have h2 : (wk (pr EA EC) 0)[2]? = some (8, [0, 0]) := by
    have : ((wk (pr EA EC) 0).take 3)[2]? = some (8, [0, 0]) := by rw [EAC_wk]; rfl
    rwa [List.getElem?_take, if_pos (by omega)] at this
  refine ldw_hit EA_val EC_val rfl EAC_bf h2 (fun q y hq hy d h0 h1 => ?_) (c := 0) (by decide) (fun d h0 h1 => by omega) ?_
  · have h1' : d < 1 := h1
    obtain rfl : d = 0 := by omega
    have hy2 := hat q y (by omega) hy
    have key : ∀ (q : Nat) (y : Wv), q < 2 → ([(0, []), (4, [0]), (8, [0, 0])] : List Wv)[q]? = some y → (nx EA (y.1 / 3) 0).2 = (nx EC (y.1 % 3) 0).2 := fun q y hq hy => by
      match q, hq, hy with
      | 0, _, hy => simp at hy; subst hy; decide +kernel
      | 1, _, hy => simp at hy; subst hy; decide +kernel
    exact key q y hq hy2
  · show ¬ ((nx EA ((8 : Int) / 3) 0).2 = (nx EC ((8 : Int) % 3) 0).2)
    decide +kernel
abbrev EPs : List (Int × Int) := [(0, 0), (0, 3), (1, 1), (2, 2)]
theorem EAB_e : ech EA EB = 0 := by decide +kernel
theorem EAC_e : ech EA EC = 0 := by decide +kernel
theorem EAT_e : ech EA ET = 5 := by decide +kernel
/-- Sorted lists with the same elements are equal. -/
theorem sorted_eq {α : Type} {R : α → α → Prop} (anti : ∀ a b, R a b → R b a → a = b) : ∀ {xs ys : List α}, xs.Perm ys → xs.Pairwise R → ys.Pairwise R → xs = ys
  | [], ys, h, _, _ => (List.nil_perm.1 h).symm
  | x :: xs, [], h, _, _ => by simp at h
  | x :: xs, y :: ys, h, hx, hy => by
    obtain ⟨hx1, hx2⟩ := List.pairwise_cons.1 hx
    obtain ⟨hy1, hy2⟩ := List.pairwise_cons.1 hy
    have e : x = y := by
      rcases List.mem_cons.1 (h.mem_iff.1 (List.mem_cons_self (a := x) (l := xs))) with h1 | h1
      · exact h1
      · rcases List.mem_cons.1 (h.mem_iff.2 (List.mem_cons_self (a := y) (l := ys))) with h2 | h2
        · exact h2.symm
        · exact anti _ _ (hx1 y h2) (hy1 x h1)
    subst e
    rw [sorted_eq anti h.cons_inv hx2 hy2]
end Mc
theorem cmpP_anti (p q : Int × Int) (h1 : ¬ cmpP q p < 0) (h2 : ¬ cmpP p q < 0) : p = q := by
  rw [cmpP_lt] at h1 h2
  exact Prod.ext (by omega) (by omega)
theorem EAB_kps : ∀ p ∈ Mc.EPs, kps Mc.EA Mc.EB Mc.EPs p.1 p.2 := fun p hp d h0 h1 => by
  have h1' : d < 1 := h1
  obtain rfl : d = 0 := by omega
  have key : ∀ p ∈ Mc.EPs, (Mc.nx Mc.EA p.1 0).2 = (Mc.nx Mc.EB p.2 0).2 ∧ ((Mc.nx Mc.EA p.1 0).1 = -1 ∨ ((Mc.nx Mc.EA p.1 0).1, (Mc.nx Mc.EB p.2 0).1) ∈ Mc.EPs) := by decide +kernel
  exact key p hp
theorem EAB_kno : ¬ ∀ p ∈ [((0, 0) : Int × Int), (1, 1)], kps Mc.EA Mc.EB [(0, 0), (1, 1)] p.1 p.2 := fun h => by
  have h1 := (h (1, 1) (by simp) 0 (by decide) (by decide)).2
  revert h1
  decide +kernel
theorem EA_rl : ∀ row ∈ Mc.RA, row.length ≤ 1000000 := by decide
theorem EB_rl : ∀ row ∈ Mc.RB, row.length ≤ 1000000 := by decide
theorem EC_rl : ∀ row ∈ Mc.RC, row.length ≤ 1000000 := by decide
theorem ET_rl : ∀ row ∈ Mc.RT, row.length ≤ 1000000 := by decide
section
variable (A B X : Option Addr) (w : World)
theorem e_dif1 (ha : RdR w A Mc.RA) (hb : RdR w B Mc.RB) : Calls Try.prog 22 #[.agg #[.int .i64 1, .int .i64 2, .slice A 3 3], .agg #[.int .i64 1, .int .i64 2, .slice B 4 4]] w fun e w' => ∃ X, e = .returned (.tuple #[.slice X 0 0, .bool false, .int .i64 0]) ∧ Rd w' X [] ∧ Below w.heap.size w w' :=
  (ediffer_any Mc.EA Mc.EB A B 3 3 4 4 w ha rfl (by decide) EA_rl hb rfl (by decide) EB_rl).mono fun e w' h => by
    obtain ⟨hB, X, k, ws, is, z, rfl, hr, hk, hz, h⟩ := h
    rw [Mc.EAB_e] at hz
    subst hz
    rcases h with ⟨_, _, h⟩ | ⟨rfl, rfl, _⟩
    · exact absurd Mc.EAB_sim h.not
    · subst hk
      exact ⟨X, rfl, hr, hB⟩
theorem e_dif2 (ha : RdR w A Mc.RA) (hb : RdR w B Mc.RC) : Calls Try.prog 22 #[.agg #[.int .i64 1, .int .i64 2, .slice A 3 3], .agg #[.int .i64 1, .int .i64 2, .slice B 3 3]] w fun e w' => ∃ X, e = .returned (.tuple #[.slice X 3 3, .bool true, .int .i64 0]) ∧ Rd w' X [0, 0, 0] ∧ Below w.heap.size w w' :=
  (ediffer_any Mc.EA Mc.EC A B 3 3 3 3 w ha rfl (by decide) EA_rl hb rfl (by decide) EC_rl).mono fun e w' h => by
    obtain ⟨hB, X, k, ws, is, z, rfl, hr, hk, hz, h⟩ := h
    rw [Mc.EAC_e] at hz
    subst hz
    rcases h with ⟨rfl, _, h⟩ | ⟨_, _, h⟩
    · obtain rfl := h.uniq (by decide) Mc.EAC_ldw
      subst hk
      exact ⟨X, rfl, hr, hB⟩
    · exact absurd (h rfl) Mc.EAC_ldw.not
theorem e_eq1 (ha : RdR w A Mc.RA) (hb : RdR w B Mc.RB) : Calls Try.prog 15 #[.agg #[.int .i64 1, .int .i64 2, .slice A 3 3], .agg #[.int .i64 1, .int .i64 2, .slice B 4 4]] w fun e w' => e = .returned (.tuple #[.bool true, .int .i64 0]) ∧ Below w.heap.size w w' :=
  (eequal_any Mc.EA Mc.EB A B 3 3 4 4 w ha rfl (by decide) EA_rl hb rfl (by decide) EB_rl).mono fun e w' h => by
    obtain ⟨hB, is, z, rfl, hz, _, h⟩ := h
    rw [Mc.EAB_e] at hz
    subst hz
    obtain rfl := (h rfl).2 Mc.EAB_sim
    exact ⟨rfl, hB⟩
theorem e_eq2 (ha : RdR w A Mc.RA) (hb : RdR w B Mc.RT) : Calls Try.prog 15 #[.agg #[.int .i64 1, .int .i64 2, .slice A 3 3], .agg #[.int .i64 2, .int .i64 1, .slice B 1 1]] w fun e w' => e = .returned (.tuple #[.bool false, .int .i64 5]) ∧ Below w.heap.size w w' :=
  (eequal_any Mc.EA Mc.ET A B 3 3 1 1 w ha rfl (by decide) EA_rl hb rfl (by decide) ET_rl).mono fun e w' h => by
    obtain ⟨hB, is, z, rfl, hz, h, _⟩ := h
    rw [Mc.EAT_e] at hz
    subst hz
    obtain rfl := h (by decide)
    exact ⟨rfl, hB⟩
theorem e_rel (ha : RdR w A Mc.RA) (hb : RdR w B Mc.RB) : Calls Try.prog 53 #[.agg #[.int .i64 1, .int .i64 2, .slice A 3 3], .agg #[.int .i64 1, .int .i64 2, .slice B 4 4]] w fun e w' => ∃ X, e = .returned (.tuple #[.slice X 4 4, .bool true, .int .i64 0]) ∧ RdP w' X Mc.EPs ∧ Below w.heap.size w w' :=
  (erelate_any Mc.EA Mc.EB A B 3 3 4 4 w ha rfl (by decide) EA_rl hb rfl (by decide) EB_rl).mono fun e w' h => by
    obtain ⟨hB, X, k, is, z, rfl, hz, h⟩ := h
    rw [Mc.EAB_e] at hz
    subst hz
    rcases h with ⟨rfl, _, _, qs, h1, h2, h3, h4⟩ | ⟨_, _, _, h⟩
    · have e : qs = Mc.EPs := by
        refine Mc.sorted_eq cmpP_anti (h1.trans ?_) h2 (by decide +kernel)
        rw [Mc.EAB_wk]
        decide +kernel
      subst e
      subst h4
      exact ⟨X, rfl, h3, hB⟩
    · exact absurd Mc.EAB_sim (h rfl)
theorem e_win1 (ha : RdR w A Mc.RA) (hb : RdR w B Mc.RC) : Calls Try.prog 54 #[.agg #[.int .i64 1, .int .i64 2, .slice A 3 3], .agg #[.int .i64 1, .int .i64 2, .slice B 3 3], .int .i64 2] w fun e w' => e = .returned (.tuple #[.bool true, .int .i64 0]) ∧ Below w.heap.size w w' :=
  (ewithin_any Mc.EA Mc.EC A B 3 3 3 3 2 w ha rfl (by decide) EA_rl hb rfl (by decide) EC_rl).mono fun e w' h => by
    obtain ⟨hB, is, z, rfl, hz, _, h⟩ := h
    rw [Mc.EAC_e] at hz
    simp at hz
    subst hz
    obtain rfl := (h rfl).2 (Or.inr ⟨_, Mc.EAC_ldw, by decide⟩)
    exact ⟨rfl, hB⟩
theorem e_win2 (ha : RdR w A Mc.RA) (hb : RdR w B Mc.RC) : Calls Try.prog 54 #[.agg #[.int .i64 1, .int .i64 2, .slice A 3 3], .agg #[.int .i64 1, .int .i64 2, .slice B 3 3], .int .i64 3] w fun e w' => e = .returned (.tuple #[.bool false, .int .i64 0]) ∧ Below w.heap.size w w' :=
  (ewithin_any Mc.EA Mc.EC A B 3 3 3 3 3 w ha rfl (by decide) EA_rl hb rfl (by decide) EC_rl).mono fun e w' h => by
    obtain ⟨hB, is, z, rfl, hz, _, h⟩ := h
    rw [Mc.EAC_e] at hz
    simp at hz
    subst hz
    cases is with
    | false => exact ⟨rfl, hB⟩
    | true =>
      rcases (h rfl).1 rfl with h | ⟨v, h1, h2⟩
      · exact absurd h Mc.EAC_ldw.not
      · obtain rfl := h1.uniq (by decide) Mc.EAC_ldw
        exact absurd h2 (by decide)
theorem e_win3 (ha : RdR w A Mc.RA) (hb : RdR w B Mc.RB) : Calls Try.prog 54 #[.agg #[.int .i64 1, .int .i64 2, .slice A 3 3], .agg #[.int .i64 1, .int .i64 2, .slice B 4 4], .int .i64 (-1)] w fun e w' => e = .returned (.tuple #[.bool false, .int .i64 1]) ∧ Below w.heap.size w w' :=
  (ewithin_any Mc.EA Mc.EB A B 3 3 4 4 (-1) w ha rfl (by decide) EA_rl hb rfl (by decide) EB_rl).mono fun e w' h => by
    obtain ⟨hB, is, z, rfl, hz, h, _⟩ := h
    rw [Mc.EAB_e] at hz
    simp at hz
    subst hz
    obtain rfl := h (by decide)
    exact ⟨rfl, hB⟩
theorem e_cr1 (ha : RdR w A Mc.RA) (hb : RdR w B Mc.RB) (hx : RdP w X Mc.EPs) : Calls Try.prog 23 #[.agg #[.int .i64 1, .int .i64 2, .slice A 3 3], .agg #[.int .i64 1, .int .i64 2, .slice B 4 4], .slice X 4 4] w fun e w' => e = .returned (.tuple #[.bool true, .int .i64 0]) ∧ Below w.heap.size w w' :=
  (checkRel_any Mc.EA Mc.EB A B X 3 3 4 4 4 4 Mc.EPs w ha rfl (by decide) EA_rl hb rfl (by decide) EB_rl hx rfl (by decide)).mono fun e w' h => by
    obtain ⟨hB, is, z, rfl, hz, _, h⟩ := h
    rw [show pck Mc.EA Mc.EB Mc.EPs = 0 by decide +kernel] at hz
    subst hz
    obtain rfl := (h rfl).2 ⟨EAB_kps, by decide⟩
    exact ⟨rfl, hB⟩
theorem e_cr2 (ha : RdR w A Mc.RA) (hb : RdR w B Mc.RB) (hx : RdP w X [(0, 0), (1, 1)]) : Calls Try.prog 23 #[.agg #[.int .i64 1, .int .i64 2, .slice A 3 3], .agg #[.int .i64 1, .int .i64 2, .slice B 4 4], .slice X 2 2] w fun e w' => e = .returned (.tuple #[.bool false, .int .i64 0]) ∧ Below w.heap.size w w' :=
  (checkRel_any Mc.EA Mc.EB A B X 3 3 4 4 2 2 [(0, 0), (1, 1)] w ha rfl (by decide) EA_rl hb rfl (by decide) EB_rl hx rfl (by decide)).mono fun e w' h => by
    obtain ⟨hB, is, z, rfl, hz, _, h⟩ := h
    rw [show pck Mc.EA Mc.EB [(0, 0), (1, 1)] = 0 by decide +kernel] at hz
    subst hz
    cases is with
    | false => exact ⟨rfl, hB⟩
    | true => exact absurd ((h rfl).1 rfl).1 EAB_kno
theorem e_cr3 (ha : RdR w A Mc.RA) (hb : RdR w B Mc.RB) (hx : RdP w X [(0, 4)]) : Calls Try.prog 23 #[.agg #[.int .i64 1, .int .i64 2, .slice A 3 3], .agg #[.int .i64 1, .int .i64 2, .slice B 4 4], .slice X 1 1] w fun e w' => e = .returned (.tuple #[.bool false, .int .i64 1]) ∧ Below w.heap.size w w' :=
  (checkRel_any Mc.EA Mc.EB A B X 3 3 4 4 1 1 [(0, 4)] w ha rfl (by decide) EA_rl hb rfl (by decide) EB_rl hx rfl (by decide)).mono fun e w' h => by
    obtain ⟨hB, is, z, rfl, hz, h, _⟩ := h
    rw [show pck Mc.EA Mc.EB [(0, 4)] = 1 by decide +kernel] at hz
    subst hz
    obtain rfl := h (by decide)
    exact ⟨rfl, hB⟩
end
theorem rdr_ea (w : World) (A B C : Addr) (h0 : RdP w (some A) Mc.ea0) (h1 : RdP w (some B) Mc.ea1) (h2 : RdP w (some C) Mc.ea2) :
    RdR (w.alloc (.cells #[.slice (some A) 1 1, .slice (some B) 1 1, .slice (some C) 1 1] 51)) (some ⟨w.heap.size, 0, none⟩) Mc.RA :=
  rdr_cells w Mc.RA _ fun k row hk => by
    match k, hk with
    | 0, hk => simp at hk; subst hk; exact ⟨A, rfl, h0, by decide⟩
    | 1, hk => simp at hk; subst hk; exact ⟨B, rfl, h1, by decide⟩
    | 2, hk => simp at hk; subst hk; exact ⟨C, rfl, h2, by decide⟩
theorem rdr_ec (w : World) (A B C : Addr) (h0 : RdP w (some A) Mc.ea0) (h1 : RdP w (some B) Mc.ea1) (h2 : RdP w (some C) Mc.ea1) :
    RdR (w.alloc (.cells #[.slice (some A) 1 1, .slice (some B) 1 1, .slice (some C) 1 1] 51)) (some ⟨w.heap.size, 0, none⟩) Mc.RC :=
  rdr_cells w Mc.RC _ fun k row hk => by
    match k, hk with
    | 0, hk => simp at hk; subst hk; exact ⟨A, rfl, h0, by decide⟩
    | 1, hk => simp at hk; subst hk; exact ⟨B, rfl, h1, by decide⟩
    | 2, hk => simp at hk; subst hk; exact ⟨C, rfl, h2, by decide⟩
theorem rdr_eb (w : World) (A B C D : Addr) (h0 : RdP w (some A) Mc.ea0) (h1 : RdP w (some B) Mc.ea1) (h2 : RdP w (some C) Mc.eb2) (h3 : RdP w (some D) Mc.ea0) :
    RdR (w.alloc (.cells #[.slice (some A) 1 1, .slice (some B) 1 1, .slice (some C) 1 1, .slice (some D) 1 1] 51)) (some ⟨w.heap.size, 0, none⟩) Mc.RB :=
  rdr_cells w Mc.RB _ fun k row hk => by
    match k, hk with
    | 0, hk => simp at hk; subst hk; exact ⟨A, rfl, h0, by decide⟩
    | 1, hk => simp at hk; subst hk; exact ⟨B, rfl, h1, by decide⟩
    | 2, hk => simp at hk; subst hk; exact ⟨C, rfl, h2, by decide⟩
    | 3, hk => simp at hk; subst hk; exact ⟨D, rfl, h3, by decide⟩
theorem rdr_et (w : World) (A : Addr) (h0 : RdP w (some A) Mc.et0) :
    RdR (w.alloc (.cells #[.slice (some A) 2 2] 51)) (some ⟨w.heap.size, 0, none⟩) Mc.RT :=
  rdr_cells w Mc.RT _ fun k row hk => by
    match k, hk with
    | 0, hk => simp at hk; subst hk; exact ⟨A, rfl, h0, by decide⟩
/-- A literal of pairs. -/
theorem rdp_pairs (w : World) (l : List (Int × Int)) (c : Array Value) (hc : c = (eC l).toArray) : RdP (w.alloc (.cells c 95)) (some ⟨w.heap.size, 0, none⟩) l := fun hp => by
  subst hc
  refine ⟨w.heap.size, 0, rfl, by simp, fun k x hk => ?_⟩
  obtain ⟨h1, h2⟩ := eC_at hk
  have hcell : ∀ j v, (eC l)[j]? = some v → (w.alloc (.cells (eC l).toArray 95)).cell? ⟨w.heap.size, 0 + j, none⟩ = some v := fun j v hj => by
    rw [World.cell?_alloc_at _ _ _ _ rfl, Nat.zero_add]
    simpa using hj
  exact ⟨hcell _ _ h1, by have := hcell _ _ h2; rwa [← Nat.add_assoc] at this⟩
end Go.Proofs.Ytiamkkgnjobljaa
