/-
  The examples of the chapter, one call each. No statement is proved here.
-/
import Derived.Test.YthemaombpddbbaaWdA
import Derived.Test.YthemaombpddbbaaWbB
namespace Go.Proofs.Ythemaombpddbbaa
open Go.RowKit
open Mc (Ed Ma)

namespace Mc
abbrev x0 : List Ed := [(2, 0), (0, 1)]
abbrev x1 : List Ed := [(1, 0), (2, 0)]
abbrev x2 : List Ed := [(-1, -1), (3, 1)]
abbrev x3 : List Ed := [(2, 0), (0, 0)]
abbrev XR : List (List Ed) := [x0, x1, x2, x3]
abbrev XM : Ma := ⟨2, 2, XR⟩
abbrev y0 : List Ed := [(1, 0), (0, 1)]
abbrev y1 : List Ed := [(-1, -1), (2, 1)]
abbrev y2 : List Ed := [(1, 0), (0, 0)]
abbrev YR : List (List Ed) := [y0, y1, y2]
abbrev YM : Ma := ⟨2, 2, YR⟩
theorem XM_val : Val XM := val_of (by decide)
theorem YM_val : Val YM := val_of (by decide)
theorem XM_wk : wk XM 0 = [(0, []), (2, [0]), (3, [0, 1])] := by decide +kernel
theorem YM_wk : wk YM 0 = [(0, []), (1, [0]), (2, [0, 1])] := by decide +kernel
theorem XM_ord : ord XM = [0, 2, 3] := by unfold ord; rw [XM_wk]; rfl
theorem YM_ord : ord YM = [0, 1, 2] := by unfold ord; rw [YM_wk]; rfl
theorem XM_asc : asc XM = [0, 2, 3] := by
  unfold asc
  rw [XM_ord]
  exact List.mergeSort_of_pairwise (by decide)
theorem XM_prt : prt XM [0, 2, 3] = YM := by decide
theorem YM_prt : prt YM [0, 1, 2] = YM := by decide
theorem XM_pth1 : pthV XM 3 2 = [0] ∧ pthB XM 3 2 = true ∧ chkS XM [3, 2] = 0 := by decide +kernel
theorem XM_pth2 : pthV XM 2 2 = [] ∧ pthB XM 2 2 = true ∧ chkS XM [2, 2] = 0 := by decide +kernel
theorem XM_pth3 : pthV XM 2 0 = [1, 1] ∧ pthB XM 2 0 = true ∧ chkS XM [2, 0] = 0 := by decide +kernel
theorem XM_pth4 : pthV XM 0 1 = [] ∧ pthB XM 0 1 = false ∧ chkS XM [0, 1] = 0 := by decide +kernel
theorem XM_dst : dstV XM 2 = [2, -1, 0, 1] ∧ chkS XM [2] = 0 := by decide +kernel
theorem XM_acc : accV XM = [[], [], [0], [0, 1]] ∧ accB XM = [true, false, true, true] ∧ chk XM = 0 := by decide +kernel
theorem XM_can : canB XM = false := by
  rw [← Bool.not_eq_true, canB_iff, XM_ord]
  rintro ⟨h, _⟩
  simp at h
theorem XY_isoE : isoE XM YM = 0 := by
  unfold isoE
  rw [if_neg (by decide)]
  decide
theorem XY_isoB : isoB XM YM = true := by
  unfold isoB
  rw [XY_isoE, if_neg (by decide), XM_ord, YM_ord, XM_prt, YM_prt]
  simp
theorem XY_isoV : isoV XM YM = [0, -1, 1, 2] := by
  unfold isoV
  rw [XY_isoB, if_pos rfl, XM_ord, YM_ord]
  decide
end Mc
theorem rdp_lit (w : World) (l : List Ed) (c : Array Value) (hc : c = (eC l).toArray) : RdP (w.alloc (.cells c 73)) (some ⟨w.heap.size, 0, none⟩) l := fun hp => by
  subst hc
  refine ⟨w.heap.size, 0, rfl, by simp, fun k x hk => ?_⟩
  obtain ⟨h1, h2⟩ := eC_at hk
  have hcell : ∀ j v, (eC l)[j]? = some v → (w.alloc (.cells (eC l).toArray 73)).cell? ⟨w.heap.size, 0 + j, none⟩ = some v := fun j v hj => by
    rw [World.cell?_alloc_at _ _ _ _ rfl, Nat.zero_add]
    simpa using hj
  exact ⟨hcell _ _ h1, by have := hcell _ _ h2; rwa [← Nat.add_assoc] at this⟩
/-- A slice of rows, by what its cells hold. -/
theorem rdr_cells (w : World) (rs : List (List Ed)) (cs : Array Value) (h : ∀ (k : Nat) (row : List Ed), rs[k]? = some row → ∃ A : Addr, cs[k]? = some (Value.slice (some A) row.length row.length) ∧ RdP w (some A) row ∧ row.length ≤ maxLen) :
    RdR (w.alloc (.cells cs 57)) (some ⟨w.heap.size, 0, none⟩) rs := fun _ => by
  have hb : Below w.heap.size w (w.alloc (.cells cs 57)) := (Below.refl _ _).alloc (Nat.le_refl _) _
  refine ⟨w.heap.size, 0, rfl, by simp, fun j row hj => ?_⟩
  obtain ⟨A, h1, h2, h3⟩ := h j row hj
  refine ⟨some A, row.length, ?_, by omega, h3, fun e => by simp at e, h2.below hb⟩
  rw [World.cell?_alloc_at _ _ _ _ rfl, Nat.zero_add]
  exact h1
theorem rdr_four (w : World) (A B C D : Addr) (h0 : RdP w (some A) Mc.x0) (h1 : RdP w (some B) Mc.x1) (h2 : RdP w (some C) Mc.x2) (h3 : RdP w (some D) Mc.x3) :
    RdR (w.alloc (.cells #[.slice (some A) 2 2, .slice (some B) 2 2, .slice (some C) 2 2, .slice (some D) 2 2] 57)) (some ⟨w.heap.size, 0, none⟩) Mc.XR :=
  rdr_cells w Mc.XR _ fun k row hk => by
    match k, hk with
    | 0, hk => simp at hk; subst hk; exact ⟨A, rfl, h0, by decide⟩
    | 1, hk => simp at hk; subst hk; exact ⟨B, rfl, h1, by decide⟩
    | 2, hk => simp at hk; subst hk; exact ⟨C, rfl, h2, by decide⟩
    | 3, hk => simp at hk; subst hk; exact ⟨D, rfl, h3, by decide⟩
theorem rdr_three (w : World) (A B C : Addr) (h0 : RdP w (some A) Mc.y0) (h1 : RdP w (some B) Mc.y1) (h2 : RdP w (some C) Mc.y2) :
    RdR (w.alloc (.cells #[.slice (some A) 2 2, .slice (some B) 2 2, .slice (some C) 2 2] 57)) (some ⟨w.heap.size, 0, none⟩) Mc.YR :=
  rdr_cells w Mc.YR _ fun k row hk => by
    match k, hk with
    | 0, hk => simp at hk; subst hk; exact ⟨A, rfl, h0, by decide⟩
    | 1, hk => simp at hk; subst hk; exact ⟨B, rfl, h1, by decide⟩
    | 2, hk => simp at hk; subst hk; exact ⟨C, rfl, h2, by decide⟩
theorem MK.putP {E : World → Prop} {w w1 : World} {L : List (World → Prop)} (h : MK E w w1 L) {A : Option Addr} {l : List Ed} (hr : RdP w1 A l) : MK E w w1 ((fun w => RdP w A l) :: L) := h.put (fun _ _ h hb => h.below hb) hr
theorem MK.putX {E : World → Prop} {w w1 : World} {L : List (World → Prop)} (h : MK E w w1 L) {p k : Nat} {l : List (List Ed)} (hr : Ex w1 p k l) : MK E w w1 ((fun w => Ex w p k l) :: L) := h.put (fun _ _ h hb => h.below hb) hr
theorem MK.putW {E : World → Prop} {w w1 : World} {L : List (World → Prop)} (h : MK E w w1 L) {g : Nat} {l : List (List Int)} (hr : WsB w1 g l) : MK E w w1 ((fun w => WsB w g l) :: L) := h.put (fun _ _ h hb => h.below hb) hr
theorem MK.putO {E : World → Prop} {w w1 : World} {L : List (World → Prop)} (h : MK E w w1 L) {g : Nat} {l : List Bool} (hr : BlkB w1 g l) : MK E w w1 ((fun w => BlkB w g l) :: L) := h.put (fun _ _ h hb => h.below hb h.lt) hr
section
variable (A B : Option Addr) (w : World)
theorem l_reach (hr : RdR w A Mc.XR) : Calls Try.prog 32 #[.agg #[.int .i64 2, .int .i64 2, .slice A 4 4]] w fun e w' => ∃ g, e = .returned (.tuple #[.slice (some ⟨g, 0, none⟩) 3 3, .int .i64 0]) ∧ Rd w' (some ⟨g, 0, none⟩) [0, 2, 3] ∧ Below w.heap.size w w' := by
  refine (wreach_ok Mc.XM A 4 w Mc.XM_val hr).mono ?_
  rintro e w' ⟨g, q, rfl, hq, hB, hb⟩
  have hq := hq.out
  have hB := hB.out
  rw [Mc.XM_asc] at hq hB
  obtain rfl : 3 = q := hq
  exact ⟨g, rfl, hB.rd, hb⟩
theorem l_access (hr : RdR w A Mc.XR) : Calls Try.prog 31 #[.agg #[.int .i64 2, .int .i64 2, .slice A 4 4]] w fun e w' => ∃ g1 g2, e = .returned (.tuple #[.slice (some ⟨g1, 0, none⟩) 4 4, .slice (some ⟨g2, 0, none⟩) 4 4, .int .i64 0]) ∧ WsB w' g1 [[], [], [0], [0, 1]] ∧ BlkB w' g2 [true, false, true, true] ∧ Below w.heap.size w w' := by
  have C := wacc_any 2 2 Mc.XR A 4 4 w hr rfl (by decide) (by decide)
  refine C.mono ?_
  rintro e w' ⟨B, C, k, rfl, h1, h2, h3, hb⟩
  have h1 := h1.out
  rw [Mc.XM_acc.1] at h1
  rw [Mc.XM_acc.1, Mc.XM_acc.2.1] at h3
  rw [Mc.XM_acc.2.2]
  obtain rfl : 4 = k := h1
  obtain ⟨g1, g2, rfl, rfl, h4, h5⟩ := h3 (by decide)
  exact ⟨g1, g2, rfl, h4, h5, hb⟩
theorem l_path (s t : Int) (x : List Int) (b : Bool) (hx : Mc.pthV Mc.XM s t = x ∧ Mc.pthB Mc.XM s t = b ∧ Mc.chkS Mc.XM [s, t] = 0) (hr : RdR w A Mc.XR) : Calls Try.prog 30 #[.agg #[.int .i64 2, .int .i64 2, .slice A 4 4], .int .i64 s, .int .i64 t] w fun e w' => ∃ B, e = .returned (.tuple #[.slice B x.length x.length, .bool b, .int .i64 0]) ∧ Rd w' B x ∧ Below w.heap.size w w' := by
  have C := wpath_any 2 2 Mc.XR A 4 4 s t w hr rfl (by decide) (by decide)
  refine C.mono ?_
  rintro e w' ⟨B, k, rfl, h1, h2, hb⟩
  have h1 := h1.out
  rw [hx.1] at h1 h2
  rw [hx.2.1, hx.2.2]
  subst h1
  exact ⟨B, rfl, h2, hb⟩
theorem l_dist (hr : RdR w A Mc.XR) : Calls Try.prog 29 #[.agg #[.int .i64 2, .int .i64 2, .slice A 4 4], .int .i64 2] w fun e w' => ∃ B, e = .returned (.tuple #[.slice B 4 4, .int .i64 0]) ∧ Rd w' B [2, -1, 0, 1] ∧ Below w.heap.size w w' := by
  have C := wdist_any 2 2 Mc.XR A 4 4 2 w hr rfl (by decide) (by decide)
  refine C.mono ?_
  rintro e w' ⟨B, k, rfl, h1, h2, hb⟩
  have h1 := h1.out
  rw [Mc.XM_dst.1] at h1 h2
  rw [Mc.XM_dst.2]
  obtain rfl : 4 = k := h1
  exact ⟨B, rfl, h2, hb⟩
theorem l_trim (hr : RdR w A Mc.XR) : Calls Try.prog 33 #[.agg #[.int .i64 2, .int .i64 2, .slice A 4 4]] w fun e w' => ∃ p g, e = .returned (.tuple #[.agg #[.int .i64 2, .int .i64 2, .slice (some ⟨p, 0, none⟩) 3 3], .slice (some ⟨g, 0, none⟩) 3 3, .int .i64 0]) ∧ Ex w' p 3 Mc.YR ∧ Rd w' (some ⟨g, 0, none⟩) [0, 2, 3] ∧ Below w.heap.size w w' := by
  refine (wtrim_ok Mc.XM A 4 w Mc.XM_val hr).mono ?_
  rintro e w' ⟨p, k, gs, g, rfl, hk, hg, hW, hB, hb⟩
  have hk := hk.out
  have hB := hB.out
  have hW := hW.out
  rw [Mc.XM_asc] at hk hB hW
  rw [Mc.XM_prt] at hW
  obtain rfl : 3 = k := hk
  exact ⟨p, g, rfl, ⟨gs, hg.out, rfl, by decide, by decide, hW.lower (Nat.zero_le _)⟩, hB.rd, hb⟩
theorem l_canon (hr : RdR w A Mc.XR) : Calls Try.prog 16 #[.agg #[.int .i64 2, .int .i64 2, .slice A 4 4]] w fun e w' => ∃ p, e = .returned (.tuple #[.agg #[.int .i64 2, .int .i64 2, .slice (some ⟨p, 0, none⟩) 3 3], .int .i64 0]) ∧ Ex w' p 3 Mc.YR ∧ Below w.heap.size w w' := by
  refine (wcanon_ok Mc.XM A 4 w Mc.XM_val hr).mono ?_
  rintro e w' ⟨p, k, gs, rfl, hk, hg, hW, hb⟩
  have hk := hk.out
  have hW := hW.out
  rw [Mc.XM_ord] at hk hW
  rw [Mc.XM_prt] at hW
  obtain rfl : 3 = k := hk
  exact ⟨p, rfl, ⟨gs, hg.out, rfl, by decide, by decide, hW.lower (Nat.zero_le _)⟩, hb⟩
theorem l_iscan (hr : RdR w A Mc.XR) : Calls Try.prog 21 #[.agg #[.int .i64 2, .int .i64 2, .slice A 4 4]] w fun e w' => e = .returned (.tuple #[.bool false, .int .i64 0]) ∧ Below w.heap.size w w' := by
  have C := wiscan_ok Mc.XM A 4 w Mc.XM_val hr
  rwa [Mc.XM_can] at C
theorem l_iso (hr : RdR w A Mc.XR) (hq : RdR w B Mc.YR) : Calls Try.prog 25 #[.agg #[.int .i64 2, .int .i64 2, .slice A 4 4], .agg #[.int .i64 2, .int .i64 2, .slice B 3 3]] w fun e w' => ∃ B, e = .returned (.tuple #[.slice B 4 4, .bool true, .int .i64 0]) ∧ Rd w' B [0, -1, 1, 2] ∧ Below w.heap.size w w' := by
  refine (wiso_any Mc.XM Mc.YM A B 4 4 3 3 w hr hq rfl rfl (by decide) (by decide) (by decide) (by decide)).mono ?_
  rintro e w' ⟨B, k, rfl, hk, h2, hb⟩
  have hk := hk.out
  rw [Mc.XY_isoV] at hk h2
  rw [Mc.XY_isoB, Mc.XY_isoE]
  obtain rfl : 4 = k := hk
  exact ⟨B, rfl, h2, hb⟩
end
end Go.Proofs.Ythemaombpddbbaa
