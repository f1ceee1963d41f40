/-
  Contracts of splits: Height. No statement is proved here.
-/
import Derived.Test.YtonnplhiaidjnaaSqF
namespace Go.Proofs.Ytonnplhiaidjnaa
open Go.RowKit
open Mc (Ed Ma)
attribute [local go_sem] Oper.semAt_some

namespace Mc
/-- The greatest length among the first pairs. -/
def hgtTo (m : Ma) (n k : Nat) : Nat := ((prs n).take k).foldl (fun a p => max a (sl m p.1 p.2)) 0
theorem hgtTo_zero (m : Ma) (n : Nat) : hgtTo m n 0 = 0 := rfl
theorem hgtTo_step {m : Ma} {n k : Nat} {p : Nat × Nat} (h : (prs n)[k]? = some p) : hgtTo m n (k + 1) = max (hgtTo m n k) (sl m p.1 p.2) := by
  unfold hgtTo
  rw [List.take_add_one, h, List.foldl_append]
  rfl
/-- The height. -/
def hgt (m : Ma) : Nat := hgtTo m m.r.length (prs m.r.length).length
theorem hgtTo_lt {m : Ma} (v : Val m) : ∀ k, k ≤ (prs m.r.length).length → hgtTo m m.r.length k < m.r.length
  | 0, _ => by rw [hgtTo_zero]; exact v.r0
  | k + 1, h => by
    have hk := List.getElem?_eq_getElem (l := prs m.r.length) (i := k) (by omega)
    have hp := prs_lt hk
    rw [hgtTo_step hk]
    have h1 := hgtTo_lt v k (by omega)
    have h2 := sl_lt v (s := ((prs m.r.length)[k]).1) (t := ((prs m.r.length)[k]).2) (by omega) hp.2
    omega
theorem hgt_lt {m : Ma} (v : Val m) : hgt m < m.r.length := hgtTo_lt v _ (Nat.le_refl _)
theorem hgtTo_ge {m : Ma} {n : Nat} : ∀ {k j : Nat} {p : Nat × Nat}, j < k → (prs n)[j]? = some p → k ≤ (prs n).length → sl m p.1 p.2 ≤ hgtTo m n k
  | 0, j, p, h, _, _ => by omega
  | k + 1, j, p, h, hp, hk => by
    have hk2 := List.getElem?_eq_getElem (l := prs n) (i := k) (by omega)
    rw [hgtTo_step hk2]
    by_cases e : j = k
    · subst e
      rw [hk2] at hp
      injection hp with hp
      rw [hp]
      omega
    · have := hgtTo_ge (m := m) (k := k) (j := j) (by omega) hp (by omega)
      omega
end Mc

set_option maxRecDepth 100000 in
theorem height_err (i o : Int) (rs : List (List Ed)) (A : Option Addr) (n c : Nat) (w : World) (hr : RdR w A rs) (hn : rs.length = n) (hnb : n ≤ 1000000) (hrl : ∀ row ∈ rs, row.length ≤ 1000000) (E : Int) (hE : Mc.chk ⟨i, o, rs⟩ = E) (hne : E ≠ 0) :
    Calls Try.prog 41 #[.agg #[.int .i64 i, .int .i64 o, .slice A n c]] w fun e w' => e = .returned (.tuple #[.int .i64 0, .int .i64 E]) ∧ Below w.heap.size w w' := by
  have b1 : Below w.heap.size w (boxM w i o A n c) := (Below.refl _ _).alloc (Nat.le_refl _) _
  have C1 := scheck_any i o rs A none n c 0 0 [] _ (hr.below b1) Rd.nil_ hn rfl hnb hrl (by omega)
  rw [Mc.skE_nil, hE] at C1
  have HB := Lib.hid b1
  have hne' : (E != 0) = true := by simp [hne]
  obtain ⟨m0, m1, m2⟩ := BxM.cells (BxM.new w i o A n c)
  clear b1 hr hrl hE
  go_enter Try.func41, Try.ntmps41
  go_wp2_with fail
  refine C1.mono ?_
  rintro e w1 ⟨rfl, hb1⟩
  have hbF := Lib.hid (below_next HB.out hb1)
  go_wp2_with fail
  go_returns
  exact ⟨rfl, hbF.out⟩

/-- A call of Height in memory: the box of the heads' address, that of the height. -/
structure FrH (w : World) (P g : Nat) (f h : Nat → Nat → Nat) (z : Nat) (W : World) : Prop where
  bel : Below w.heap.size w W
  p : Box W P (.pointer (some ⟨g, 0, none⟩))
  q : Box W (P + 1) (.int .i64 z)
  hd : Hds W g f h
  wP : w.heap.size ≤ P
  gP : g < P
section
variable {w : World} {P g : Nat} {f h : Nat → Nat → Nat} {z : Nat} {W W' : World}
theorem FrH.cells {C : Nat} (H : FrH w P g f h z W) (k : Cells C W W') (hC : w.heap.size ≤ C) : FrH w P g f h z W' := ⟨k.below hC H.bel, H.p.cells k, H.q.cells k, H.hd.cells k, H.wP, H.gP⟩
theorem FrH.below (H : FrH w P g f h z W) (k : Below W.heap.size W W') : FrH w P g f h z W' := H.cells (Cells.of_below' k) H.bel.size
theorem FrH.put (H : FrH w P g f h z W) (y : Nat) : FrH w P g f h y (W.setCell ⟨P + 1, 0, none⟩ (.int .i64 y)) :=
  ⟨H.bel.setCell (p := ⟨P + 1, 0, none⟩) (by have := H.wP; show _ ≤ P + 1; omega) _, H.p.far (by omega) _, H.q.set_ _, H.hd.far (by have := H.gP; omega) _, H.wP, H.gP⟩
end
set_option maxRecDepth 100000 in
set_option maxHeartbeats 4000000 in
theorem height_ok (m : Ma) (i : Nat) (o : Int) (A : Option Addr) (n c : Nat) (w : World) (v : Mc.Val m) (hi : m.i = i) (ho : m.o = o) (hn : m.r.length = n) (hr : RdR w A m.r) :
    Calls Try.prog 41 #[.agg #[.int .i64 i, .int .i64 o, .slice A n c]] w fun e w' => e = .returned (.tuple #[.int .i64 (Mc.hgt m : Nat), .int .i64 0]) ∧ Below w.heap.size w w' := by
  have hn64 : n ≤ 64 := by have := v.r1; omega
  have b1 : Below w.heap.size w (boxM w i o A n c) := (Below.refl _ _).alloc (Nat.le_refl _) _
  have C1 := scheck_any m.i m.o m.r A none n c 0 0 [] _ (hr.below b1) Rd.nil_ hn rfl (by omega) (fun row hrow => by have := v.len row hrow; have := v.i1; omega) (by omega)
  rw [Mc.skE_nil, show Mc.chk ⟨m.i, m.o, m.r⟩ = 0 from Mc.chk_of v, hi, ho] at C1
  have CS := fun w hr => search_any m i o A n c w v hi hn hr
  have HV := Lib.hid v
  have HN := Lib.hid hn
  have HR := Lib.hid hr
  have HB := Lib.hid b1
  have HM := Lib.hid (BxM.new w i o A n c)
  obtain ⟨H0, hH0⟩ : ∃ H0, Mc.hgt m = H0 := ⟨_, rfl⟩
  have HH0 : Hid (Mc.hgtTo m n (Mc.prs n).length = H0) := by rw [← hH0, ← hn]; rfl
  rw [hH0]
  clear b1 v hi ho hn hr hH0
  obtain ⟨m9, _⟩ : ∃ m9 : Nat, True := ⟨3, trivial⟩
  refine (callsIn_wide (n := m9)).1 ?_
  refine callsIn_of_wp_marks Try.func41 rfl trivial ?_
  simp only [Try.ntmps41, List.size_toArray, List.length_cons, List.length_nil, Nat.reduceAdd, Nat.reduceSub, Array.replicate_succ, Array.replicate_zero, List.push_toArray, List.append_toArray, List.nil_append, List.cons_append]
  obtain ⟨x0, x1, x2⟩ := BxM.cells HM.out
  gi_wp2_with fail
  clear x0 x1 x2
  refine wide_calls C1 ?_
  rintro e w1 ⟨rfl, hb1⟩
  have hM1 := HM.out.mvB hb1
  have hb2 := below_next HB.out hb1
  clear C1
  obtain ⟨x0, x1, x2⟩ := BxM.cells hM1
  gi_wp2_with fail
  clear x0 x1 x2
  refine wide_calls (CS _ (HR.out.below hb2)) ?_
  rintro e w2 ⟨g, f, h, rfl, hgw, hH, hT, hb3⟩
  have hM2 := hM1.mvB hb3.out
  have hb4 := below_next hb2 hb3.out
  have hgl := hH.out.lt
  obtain ⟨P, hP⟩ : ∃ P, w2.heap.size = P := ⟨_, rfl⟩
  have f0 : FrH w P g f h 0 ((w2.alloc (.cells #[.pointer (some ⟨g, 0, none⟩)] 108)).alloc (.cells #[.int .i64 0] 3)) := by
    have q1 : Below w2.heap.size w2 (w2.alloc (.cells #[.pointer (some ⟨g, 0, none⟩)] 108)) := (Below.refl _ _).alloc (Nat.le_refl _) _
    have hz := hb4.size
    refine ⟨(hb4.alloc hz _).alloc (by simp; omega) _, (Box.new_ hP _ _).alloc _, Box.new_ (by simp [hP]) _ _, (hH.out.below q1).below ((Below.refl _ _).alloc (Nat.le_refl _) _), by omega, by omega⟩
  have hM3 : BxM ((w2.alloc (.cells #[.pointer (some ⟨g, 0, none⟩)] 108)).alloc (.cells #[.int .i64 0] 3)) w.heap.size i o A n c := (hM2.mvB ((Below.refl _ _).alloc (Nat.le_refl _) _)).mvB ((Below.refl _ _).alloc (Nat.le_refl _) _)
  have HT := Lib.hid hT.out
  clear hM1 hM2 hb1 hb2 hb3 hb4 hgw hH hT CS hgl
  obtain ⟨x0, x1, x2⟩ := BxM.cells hM3
  gi_wp2_with fail
  clear x0 x1 x2
  refine wide_calls (pairs_any _ _) ?_
  rintro e w3 ⟨rfl, rfl⟩
  gi_wp2_with fail
  obtain ⟨X, hX⟩ : ∃ X, ((w2.alloc (.cells #[.pointer (some ⟨g, 0, none⟩)] 108)).alloc (.cells #[.int .i64 0] 3)).alloc (.cells #[.int .i64 n] 3) = X := ⟨_, rfl⟩
  have f1 : FrH w P g f h 0 X := by rw [← hX]; exact f0.below ((Below.refl _ _).alloc (Nat.le_refl _) _)
  have hbx : Box X (P + 1 + 1) (.int .i64 n) := by rw [← hX]; exact Box.new_ (by simp [hP]) _ _
  have hXs : P + 1 + 1 < X.heap.size := hbx.lt
  rw [hX]
  try rw [hP]
  clear f0 hX hP hM3
  have hG := pairs1_gives (m9 - 1) (P + 1 + 1) n (fun b => b = P + 1) X hbx (by show ¬ _ = _; omega) (by omega)
  refine range_list (m := m9) 83 _ rfl (enters_of Try.func83 (by kernel_rfl) rfl) ((Mc.prs n).map pv) (fun b => b = P + 1) (fun b h => by show b < _; omega) ?hps hG
    (fun k W => FrH w P g f h (Mc.hgtTo m n k) W ∧ k ≤ (Mc.prs n).length)
    (fun _ _ => False)
    (fun k A B h c => ⟨h.1.cells c (by have := f1.bel.size; omega), h.2⟩) (fun c' A B h c => h) ⟨by rw [Mc.hgtTo_zero]; exact f1, Nat.zero_le _⟩ ?round ?done ?stop
  case hps => intro v hv; obtain ⟨p, _, rfl⟩ := List.mem_map.1 hv; rfl
  case stop => rintro N c' W hN h; exact h.elim
  case done =>
    intro N W hN ⟨hI, _⟩ hd
    rw [List.length_map] at hI
    rw [HH0.out] at hI
    have qc := hI.q.1
    have hI3 := hI.cells (C := N) (Cells.put (.deferred none) hd rfl (Nat.le_refl N)) (by have := f1.bel.size; omega)
    have hbF := Lib.hid hI3.bel
    clear hG hbx f1 hI hI3
    simp only [marked]
    gi_wp2_with fail
    refine ⟨by simp, .inl ⟨_, _, rfl, run_takeDeferred hd, ?_⟩⟩
    refine ⟨_, by simp [results, Try.f41, go_sem], rfl, hbF.out⟩
  case round =>
    intro l k v W hk hW ⟨hI, hkl⟩
    rw [List.getElem?_map, Option.map_eq_some_iff] at hk
    obtain ⟨⟨s, t⟩, hp, rfl⟩ := hk
    obtain ⟨hst, htn⟩ := Mc.prs_lt hp
    have hkn : k < (Mc.prs n).length := (List.getElem?_eq_some_iff.1 hp).1
    have hstep := Mc.hgtTo_step (m := m) hp
    simp only at hst htn hstep
    have HS := Lib.hid hstep
    clear hp hG hbx hstep
    simp only [pv]
    gi_wp2_with fail
    refine ⟨Below.refl _ _, fun W2 hc2 => ?_⟩
    have hI2 := hI.cells hc2 (by have := f1.bel.size; omega)
    clear hI hc2 f1
    have hs64 : s < 64 := by omega
    have ht64 : t < 64 := by omega
    have hsI : (s : Int) < 64 := by omega
    have htI : (t : Int) < 64 := by omega
    obtain ⟨a0, _⟩ := hI2.hd.at_ hs64 ht64
    rw [(HT.out s t (by rw [HN.out]; omega) (by rw [HN.out]; omega)).1] at a0
    obtain ⟨y, hy⟩ : ∃ y, Mc.sl m s t = y := ⟨_, rfl⟩
    obtain ⟨z, hz⟩ : ∃ z, Mc.hgtTo m n k = z := ⟨_, rfl⟩
    rw [hy] at a0
    rw [hz] at hI2
    have HZ : Hid (Mc.hgtTo m n (k + 1) = max z y) := by show _ = _; rw [HS.out, hy, hz]
    clear hy hz HS
    obtain ⟨Y, hY⟩ : ∃ Y, W2.drew = Y := ⟨_, rfl⟩
    have hbY : Below W2.heap.size W2 Y := by rw [← hY]; exact (Below.refl _ _).drew
    have hI3 := hI2.below hbY
    obtain ⟨a1, _⟩ := hI3.hd.at_ hs64 ht64
    have hca : Y.cell? ⟨g, s * 128 + t * 2, none⟩ = some (.int .i64 y) := (hbY.cell (p := ⟨g, s * 128 + t * 2, none⟩) hI2.hd.lt).trans a0
    obtain ⟨p1, _⟩ := hI3.p
    obtain ⟨q1, q2⟩ := hI3.q
    have hmx : max (z : Int) (y : Int) = ((max z y : Nat) : Int) := by omega
    have RH : Hid (∀ a, roundP (fun b => b = P + 1) (fun k W => FrH w P g f h (Mc.hgtTo m n k) W ∧ k ≤ (Mc.prs n).length) (fun _ _ => False) k W2 .normal a (Y.setCell ⟨P + 1, 0, none⟩ (.int .i64 ((max z y : Nat) : Int)))) := fun a =>
      ⟨⟨by rw [HZ.out]; exact hI3.put (max z y), by omega⟩, (KA.of_below hbY).trans (KA.set (D := fun b => b = P + 1) (off := 0) Y rfl _)⟩
    clear hI2 hI3 a0 a1 HZ hbY
    gi_wp2_with fail
    refine wpIn_region_still_tail 10 (by kernel_rfl) (by kernel_rfl) (by kernel_rfl) ?_
    rw [hY]
    clear hY
    simp only [List.take_succ_cons, List.take_zero, List.drop_succ_cons, List.drop_zero]
    repeat still_step
    refine wpStill_nil ?_
    gi_wp2_with fail
    exact RH.out _
end Go.Proofs.Ytonnplhiaidjnaa
