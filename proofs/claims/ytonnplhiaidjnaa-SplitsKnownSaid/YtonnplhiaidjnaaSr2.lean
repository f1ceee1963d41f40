/-
  The walk of the law SplitsSeparates. No statement is proved here.
-/
import Derived.Test.YtonnplhiaidjnaaSbY
import Derived.Test.YtonnplhiaidjnaaStY
import Derived.Test.YtonnplhiaidjnaaWj
import Derived.Deep.RegionHeld3
import Derived.Deep.QuietTactic
import Derived.BigQuiet
namespace Go.Proofs.Ytonnplhiaidjnaa
open Go.RowKit
open Mc (Ed Ma)

namespace Mc
theorem sym_wd2 {m : Ma} {i : Int} {zs : List Int} (hi : m.i = i) (h1 : 1 ≤ i) : Wd m (M.sym i zs) := by
  intro c hc
  have hc : c ∈ (zs.take 12).map (· % i) := hc
  obtain ⟨z, _, rfl⟩ := List.mem_map.1 hc
  rw [hi]
  exact ⟨Int.emod_nonneg _ (by omega), Int.emod_lt_of_pos _ (by omega)⟩
theorem sym_len2 (i : Int) (zs : List Int) : (M.sym i zs).length ≤ 12 := by
  show ((zs.take 12).map (· % i)).length ≤ 12
  rw [List.length_map, List.length_take]; omega
end Mc
theorem wof_at2 (A : Option Addr) (c : Nat) (zs : List Int) (n : Nat) (w : World) (h : Rd8 w A zs) (h1 : 1 ≤ n) (h2 : n ≤ 16) (hm : zs.length ≤ 9223372036854775807) :
    Calls Try.prog 23 #[.agg #[.slice A zs.length c], .int .i64 n] w fun e w' => ∃ B k q, e = .returned (.slice B k q) ∧ Hid ((M.sym n zs).length = k) ∧ k ≤ 12 ∧ Rd w' B (M.sym n zs) ∧ Below w.heap.size w w' := by
  refine (of_any A c zs n w h (by omega) (by omega) hm).mono ?_
  rintro e w' ⟨B, q, rfl, hrd, hc, hb⟩
  exact ⟨B, _, q, rfl, rfl, Mc.sym_len2 _ _, hrd, hb⟩
/-- Whether a word separates two states. -/
def Mc.spB (m : Ma) (ws : List Int) (s t : Nat) : Bool := !M.same (Mc.run m s ws) (Mc.run m t ws)
theorem Mc.spB_iff {m : Ma} {ws : List Int} {s t : Nat} : Mc.spB m ws s t = true ↔ Mc.run m s ws ≠ Mc.run m t ws := by
  unfold Mc.spB
  rw [Bool.not_eq_true', ← Bool.not_eq_true, Mc.same_iff']
theorem Mc.spB_more {m : Ma} {x y : List Int} {s t : Nat} (h : Mc.spB m x s t = true) : Mc.spB m (x ++ y) s t = true := by
  rw [Mc.spB_iff] at h ⊢
  intro e
  apply h
  have h1 := congrArg (List.take x.length) e
  rw [Mc.run_app, Mc.run_app, List.take_left' (Mc.run_len m x _), List.take_left' (Mc.run_len m x _)] at h1
  exact h1
theorem Mc.spB_third {m : Ma} {x : List Int} {s t : Nat} (u : Nat) (h : Mc.spB m x s t = true) : (Mc.spB m x s u || Mc.spB m x u t) = true := by
  rw [Bool.or_eq_true, Mc.spB_iff, Mc.spB_iff]
  rw [Mc.spB_iff] at h
  by_cases e : Mc.run m s x = Mc.run m u x
  · exact Or.inr fun e2 => h (e.trans e2)
  · exact Or.inl e
theorem u8_cells3 {w : World} {K : Nat} {x0 x1 x2 : Int} (h : w.heap[K]? = some (.cells #[.int .u8 x0, .int .u8 x1, .int .u8 x2] 70)) : w.cell? ⟨K, 0, none⟩ = some (.int .u8 x0) ∧ w.cell? ⟨K, 1, none⟩ = some (.int .u8 x1) ∧ w.cell? ⟨K, 2, none⟩ = some (.int .u8 x2) :=
  ⟨by rw [cell_of_row _ _ _ _ _ _ h]; rfl, by rw [cell_of_row _ _ _ _ _ _ h]; rfl, by rw [cell_of_row _ _ _ _ _ _ h]; rfl⟩
theorem w_cells2 {w : World} {K : Nat} {x0 x1 : Value} (h : w.heap[K]? = some (.cells #[x0, x1] 69)) : w.cell? ⟨K, 0, none⟩ = some x0 ∧ w.cell? ⟨K, 1, none⟩ = some x1 :=
  ⟨by rw [cell_of_row _ _ _ _ _ _ h]; rfl, by rw [cell_of_row _ _ _ _ _ _ h]; rfl⟩
section
variable (m : Ma) (i : Nat) (o : Int) (A W : Option Addr) (n c kw dw : Nat) (ws : List Int) (w : World)
theorem sep_at (s t : Nat) (b : Bool) (v : Mc.Val m) (hi : m.i = i) (ho : m.o = o) (hn : m.r.length = n) (hkw : ws.length = kw) (hr : RdR w A m.r) (hw : Rd w W ws) (hwd : Mc.Wd m ws) (hs : s < n) (ht : t < n) (hkb : kw ≤ 256) (hb : Mc.spB m ws s t = b) :
    Calls Try.prog 38 #[.agg #[.int .i64 i, .int .i64 o, .slice A n c], .slice W kw dw, .int .i64 s, .int .i64 t] w fun e w' => e = .returned (.tuple #[.bool b, .int .i64 0]) ∧ Below w.heap.size w w' := by
  have h := separates_ok m i o A W n c kw dw ws s t w (M.same (Mc.run m s ws) (Mc.run m t ws)) v hi ho hn hkw hr hw hs ht (by omega) (Mc.check_wd v hwd (by omega)) rfl
  rw [← hb]
  exact h
theorem rspl_yes (s t : Nat) (v : Mc.Val m) (hi : m.i = i) (ho : m.o = o) (hn : m.r.length = n) (hkw : ws.length = kw) (hr : RdR w A m.r) (hw : Rd w W ws) (hwd : Mc.Wd m ws) (hs : s < n) (ht : t < n) (hkb : kw ≤ 256) (hb : Mc.spB m ws s t = true) :
    Calls Try.prog 39 #[.agg #[.int .i64 i, .int .i64 o, .slice A n c], .slice W kw dw, .int .i64 s, .int .i64 t] w fun e w' => e = .returned (.int .i64 1) ∧ Below w.heap.size w w' := by
  have h := rsplits_any m i o A n c w s t W kw dw ws false v hi ho hn hkw hr hw hs ht hwd (by omega) (by unfold Mc.spB at hb; simpa using hb)
  exact h
theorem rspl_no (s t : Nat) (v : Mc.Val m) (hi : m.i = i) (ho : m.o = o) (hn : m.r.length = n) (hkw : ws.length = kw) (hr : RdR w A m.r) (hw : Rd w W ws) (hwd : Mc.Wd m ws) (hs : s < n) (ht : t < n) (hkb : kw ≤ 256) (hb : Mc.spB m ws s t = false) :
    Calls Try.prog 39 #[.agg #[.int .i64 i, .int .i64 o, .slice A n c], .slice W kw dw, .int .i64 s, .int .i64 t] w fun e w' => e = .returned (.int .i64 0) ∧ Below w.heap.size w w' := by
  have h := rsplits_any m i o A n c w s t W kw dw ws true v hi ho hn hkw hr hw hs ht hwd (by omega) (by unfold Mc.spB at hb; simpa using hb)
  exact h
theorem wjoin_at (X Y : Option Addr) (l1 l2 d1 d2 : Nat) (x y z : List Int) (hx : Rd w X x) (hy : Rd w Y y) (h1 : x.length = l1) (h2 : y.length = l2) (hl : l1 + l2 ≤ 65536) (hz : x ++ y = z) :
    Calls Try.prog 37 #[.slice X l1 d1, .slice Y l2 d2] w fun e w' => ∃ B k q, e = .returned (.slice B k q) ∧ Hid (z.length = k) ∧ k ≤ l1 + l2 ∧ Rd w' B z ∧ Below w.heap.size w w' := by
  subst h1 h2 hz
  refine (wjoin_any X Y d1 d2 x y w hx hy hl).mono ?_
  rintro e w' ⟨B, q, rfl, hrd, _, hb⟩
  exact ⟨B, _, q, rfl, rfl, by simp, hrd, hb⟩
end
set_option maxRecDepth 100000 in
set_option maxHeartbeats 8000000 in
theorem lawSeps_walk (a b d : Int) (p : Bool) (A : Option Addr) (c : Nat) (es : List Int) (Y1 Y2 : Option Addr) (e1 e2 : Nat) (y1 y2 : List Int) (x0 x1 x2 : Int) (w : World) (hr : Rd16 w A es) (hr1 : Rd8 w Y1 y1) (hr2 : Rd8 w Y2 y2) (hl : es.length ≤ 9223372036854775807) (hl1 : y1.length ≤ 9223372036854775807) (hl2 : y2.length ≤ 9223372036854775807) (ha : 0 ≤ a ∧ a ≤ 255) (hb : 0 ≤ b ∧ b ≤ 255) (hd : 0 ≤ d ∧ d ≤ 255) (hx0 : 0 ≤ x0 ∧ x0 ≤ 255) (hx1 : 0 ≤ x1 ∧ x1 ≤ 255) (hx2 : 0 ≤ x2 ∧ x2 ≤ 255) :
    Calls Try.prog 8 #[.agg #[.int .u8 a, .int .u8 b, .int .u8 d, .bool p, .slice A es.length c], .agg #[.slice Y1 y1.length e1, .slice Y2 y2.length e2], .agg #[.int .u8 x0, .int .u8 x1, .int .u8 x2]] w fun e w' => e = .returned (.bool true) ∧ Below w.heap.size w w' := by
  obtain ⟨n, hn⟩ : ∃ n : Nat, 1 + a % 6 = n := ⟨(1 + a % 6).toNat, by omega⟩
  obtain ⟨i, hi⟩ : ∃ i : Nat, 1 + b % 3 = i := ⟨(1 + b % 3).toNat, by omega⟩
  obtain ⟨o, ho⟩ : ∃ o : Nat, 1 + d % 3 = o := ⟨(1 + d % 3).toNat, by omega⟩
  obtain ⟨z0, rfl⟩ := Int.eq_ofNat_of_zero_le hx0.1
  obtain ⟨z1, rfl⟩ := Int.eq_ofNat_of_zero_le hx1.1
  obtain ⟨z2, rfl⟩ := Int.eq_ofNat_of_zero_le hx2.1
  have hn6 : n ≤ 6 := by omega
  have hn1 : 1 ≤ n := by omega
  have hi1 : 1 ≤ i := by omega
  have hi3 : i ≤ 3 := by omega
  obtain ⟨s, hsq⟩ : ∃ s, z0 % n = s := ⟨_, rfl⟩
  obtain ⟨t, htq⟩ : ∃ t, z1 % n = t := ⟨_, rfl⟩
  obtain ⟨u, huq⟩ : ∃ u, z2 % n = u := ⟨_, rfl⟩
  have hsn : s < n := by rw [← hsq]; exact Nat.mod_lt _ hn1
  have htn : t < n := by rw [← htq]; exact Nat.mod_lt _ hn1
  have hun : u < n := by rw [← huq]; exact Nat.mod_lt _ hn1
  have hs2 : (z0 : Int).tmod n = s := by rw [← hsq]; rfl
  have ht2 : (z1 : Int).tmod n = t := by rw [← htq]; rfl
  have hu2 : (z2 : Int).tmod n = u := by rw [← huq]; rfl
  have hw0 : wrap64 (z0 : Int) = z0 := by unfold wrap64; omega
  have hw1 : wrap64 (z1 : Int) = z1 := by unfold wrap64; omega
  have hw2 : wrap64 (z2 : Int) = z2 := by unfold wrap64; omega
  have hz1 : ((n : Int) == 0) = false := by simp; omega
  have hz2 : (n : Int) ≠ 0 := by omega
  have CM := fun w hr => mof_at a b d p A c es n i o w hr hl ha hb hd hn hi ho
  obtain ⟨M, hM⟩ : ∃ M, Mc.mkN p n i o es = M := ⟨_, rfl⟩
  have V := Lib.hid (Mc.mkN_val (p := p) (n := n) (i := i) (o := o) (es := es) (by omega) (by omega) (by omega) (by omega) (by omega) (by omega))
  have hlen : Hid ((Mc.mkN p n i o es).r.length = n) := Mc.mkN_len _ _ _ _ _
  have hmi : Hid ((Mc.mkN p n i o es).i = i) := rfl
  have hmo : Hid ((Mc.mkN p n i o es).o = o) := rfl
  rw [hM] at V hlen hmi hmo
  simp only [hM] at CM
  have CW1 := fun w h => wof_at2 Y1 e1 y1 i w h hi1 (by omega) hl1
  have CW2 := fun w h => wof_at2 Y2 e2 y2 i w h hi1 (by omega) hl2
  have HW1 := Lib.hid (Mc.sym_wd2 (m := M) (i := i) (zs := y1) hmi.out (by omega))
  have HW2 := Lib.hid (Mc.sym_wd2 (m := M) (i := i) (zs := y2) hmi.out (by omega))
  obtain ⟨X1, hX1⟩ : ∃ X, Go.Proofs.Ytonnplhiaidjnaa.M.sym i y1 = X := ⟨_, rfl⟩
  obtain ⟨X2, hX2⟩ : ∃ X, Go.Proofs.Ytonnplhiaidjnaa.M.sym i y2 = X := ⟨_, rfl⟩
  rw [hX1] at HW1
  rw [hX2] at HW2
  simp only [hX1] at CW1
  simp only [hX2] at CW2
  obtain ⟨Z, hZ⟩ : ∃ Z, X1 ++ X2 = Z := ⟨_, rfl⟩
  have HZ := Lib.hid hZ
  have HWZ : Hid (Mc.Wd M Z) := fun c hc => by
    rw [← hZ] at hc
    rcases List.mem_append.1 hc with h | h
    · exact HW1.out c h
    · exact HW2.out c h
  obtain ⟨ba, hba⟩ : ∃ q, Mc.spB M X1 s t = q := ⟨_, rfl⟩
  obtain ⟨bb, hbb⟩ : ∃ q, Mc.spB M Z s t = q := ⟨_, rfl⟩
  obtain ⟨bc, hbc⟩ : ∃ q, Mc.spB M X1 s u = q := ⟨_, rfl⟩
  obtain ⟨bd, hbd⟩ : ∃ q, Mc.spB M X1 u t = q := ⟨_, rfl⟩
  have KEY : Hid (ba = false ∨ (ba = true ∧ bb = true ∧ bc = true) ∨ (ba = true ∧ bb = true ∧ bc = false ∧ bd = true)) := by
    show _ ∨ _
    cases hq : ba with
    | false => exact Or.inl rfl
    | true =>
      rw [hq] at hba
      have h1 := Mc.spB_more (y := X2) hba
      rw [hZ, hbb] at h1
      have h2 := Mc.spB_third u hba
      rw [hbc, hbd] at h2
      cases hq2 : bc with
      | true => exact Or.inr (Or.inl ⟨rfl, h1, rfl⟩)
      | false => rw [hq2] at h2; exact Or.inr (Or.inr ⟨rfl, h1, rfl, h2⟩)
  have HBA := Lib.hid hba
  have CS := fun R c1 w W k q h1 hr hw h2 => sep_at M i o R W n c1 k q X1 w s t ba V.out hmi.out hmo.out hlen.out h1 hr hw HW1.out hsn htn h2 hba
  have CT := fun R c1 w W k q h1 hr hw h2 => sep_at M i o R W n c1 k q Z w s t bb V.out hmi.out hmo.out hlen.out h1 hr hw HWZ.out hsn htn h2 hbb
  have CU := fun R c1 w W k q h1 hr hw h2 => sep_at M i o R W n c1 k q X1 w s u bc V.out hmi.out hmo.out hlen.out h1 hr hw HW1.out hsn hun h2 hbc
  have CV := fun R c1 w W k q h1 hr hw h2 => sep_at M i o R W n c1 k q X1 w u t bd V.out hmi.out hmo.out hlen.out h1 hr hw HW1.out hun htn h2 hbd
  have HR := Lib.hid hr
  have HR1 := Lib.hid hr1
  have HR2 := Lib.hid hr2
  obtain ⟨E1, hE1⟩ : ∃ E, y1.length = E := ⟨_, rfl⟩
  obtain ⟨E2, hE2⟩ : ∃ E, y2.length = E := ⟨_, rfl⟩
  obtain ⟨E3, hE3⟩ : ∃ E, es.length = E := ⟨_, rfl⟩
  simp only [hE1] at CW1
  simp only [hE2] at CW2
  simp only [hE3] at CM
  rw [hE1, hE2, hE3]
  clear hM ha hb hd hn hi ho hl hr hr1 hr2 hl1 hl2 hX1 hX2 hE1 hE2 hE3 hZ hba hbb hbc hbd hx0 hx1 hx2
  obtain ⟨K0, hK0⟩ : ∃ K0, w.heap.size = K0 := ⟨_, rfl⟩
  have s0 : MT w w [] := MT.start
  have s1 := MT.putK (P := fun w => w.heap[K0]? = some (.cells #[.int .u8 a, .int .u8 b, .int .u8 d, .bool p, .slice A E3 c] 24)) (MT.alloc s0 (.cells #[.int .u8 a, .int .u8 b, .int .u8 d, .bool p, .slice A E3 c] 24))
    (by rw [← hK0]; exact heap_alloc_new w _) (fun _ _ h hb => (hb.block _ (heap_lt h)).trans h)
  have s2 := MT.putK (P := fun w => w.heap[K0 + 1]? = some (.cells #[.slice Y1 E1 e1, .slice Y2 E2 e2] 69)) (MT.alloc s1 (.cells #[.slice Y1 E1 e1, .slice Y2 E2 e2] 69))
    (by
      have h := heap_alloc_new (w.alloc (.cells #[.int .u8 a, .int .u8 b, .int .u8 d, .bool p, .slice A E3 c] 24)) (.cells #[.slice Y1 E1 e1, .slice Y2 E2 e2] 69)
      rw [World.size_alloc, hK0] at h
      exact h) (fun _ _ h hb => (hb.block _ (heap_lt h)).trans h)
  have s3 := MT.putK (P := fun w => w.heap[K0 + 1 + 1]? = some (.cells #[.int .u8 z0, .int .u8 z1, .int .u8 z2] 70)) (MT.alloc s2 (.cells #[.int .u8 z0, .int .u8 z1, .int .u8 z2] 70))
    (by
      have h := heap_alloc_new ((w.alloc (.cells #[.int .u8 a, .int .u8 b, .int .u8 d, .bool p, .slice A E3 c] 24)).alloc (.cells #[.slice Y1 E1 e1, .slice Y2 E2 e2] 69)) (.cells #[.int .u8 z0, .int .u8 z1, .int .u8 z2] 70)
      rw [World.size_alloc, World.size_alloc, hK0] at h
      exact h) (fun _ _ h hb => (hb.block _ (heap_lt h)).trans h)
  clear s0 s1 s2
  go_enter Try.func8, Try.ntmps8
  go_upto_region 1 with fail
  obtain ⟨W0, hW0⟩ : ∃ W0, ((w.alloc (.cells #[.int .u8 a, .int .u8 b, .int .u8 d, .bool p, .slice A E3 c] 24)).alloc (.cells #[.slice Y1 E1 e1, .slice Y2 E2 e2] 69)).alloc (.cells #[.int .u8 z0, .int .u8 z1, .int .u8 z2] 70) = W0 := ⟨_, rfl⟩
  rw [hW0] at s3
  try rw [hW0]
  try rw [hK0]
  clear hW0 hK0
  have kM : W0.cell? ⟨K0, 0, none⟩ = some (.int .u8 a) ∧ W0.cell? ⟨K0, 1, none⟩ = some (.int .u8 b) ∧ W0.cell? ⟨K0, 2, none⟩ = some (.int .u8 d) ∧ W0.cell? ⟨K0, 3, none⟩ = some (.bool p) ∧ W0.cell? ⟨K0, 4, none⟩ = some (.slice A E3 c) := by
    have h1 := MK.get s3 2 rfl
    refine ⟨?_, ?_, ?_, ?_, ?_⟩ <;> (rw [cell_of_row _ _ _ _ _ _ h1]; rfl)
  obtain ⟨c0, c1, c2, c3, c4⟩ := kM
  go_wp2_with fail
  clear c0 c1 c2 c3 c4
  refine (CM _ (HR.out.below s3.2.1)).mono ?_
  rintro e w1 ⟨R, c1, rfl, hrd, hbl⟩
  have s4 := MK.putB (g := w1.heap.size) (MT.alloc (MK.putR (MT.next s3 hbl) hrd) (.cells #[.int .i64 i, .int .i64 o, .slice R n c1] 27)) (heap_alloc_new w1 _)
  clear s3 hrd hbl CM HR
  go_upto_region 2 with fail
  obtain ⟨g, hg⟩ : ∃ g, w1.heap.size = g := ⟨_, rfl⟩
  obtain ⟨W2, hW2⟩ : ∃ W, w1.alloc (.cells #[.int .i64 i, .int .i64 o, .slice R n c1] 27) = W := ⟨_, rfl⟩
  rw [hg, hW2] at s4
  try rw [hg]
  try rw [hW2]
  clear hg hW2
  obtain ⟨k1, k2⟩ := w_cells2 (MK.get s4 3 rfl)
  obtain ⟨m0, m1, m2⟩ := BxM.cells (MK.get s4 0 rfl)
  go_wp2_with fail
  clear m0 m1 m2 k1 k2
  refine (CW1 _ (HR1.out.below s4.2.1)).mono ?_
  rintro e w3 ⟨WA, wl, wc, rfl, hwl, hw12, hrd, hbl⟩
  have s5 := MK.putL (MT.next s4 hbl) hrd
  clear s4 hrd hbl CW1 HR1
  obtain ⟨k1, k2⟩ := w_cells2 (MK.get s5 4 rfl)
  obtain ⟨m0, m1, m2⟩ := BxM.cells (MK.get s5 1 rfl)
  go_wp2_with fail
  clear m0 m1 m2 k1 k2
  refine (CW2 _ (HR2.out.below s5.2.1)).mono ?_
  rintro e w4 ⟨WB, vl, vc, rfl, hvl, hv12, hrd, hbl⟩
  have s6 := MK.putL (MT.next s5 hbl) hrd
  clear s5 hrd hbl CW2 HR2
  go_wp2_with fail
  refine (wjoin_at _ WA WB wl vl wc vc X1 X2 Z (MK.get s6 1 rfl) (MK.get s6 0 rfl) hwl.out hvl.out (by omega) HZ.out).mono ?_
  rintro e w5 ⟨ZA, zl, zc, rfl, hzl, hz12, hrd, hbl⟩
  have s7 := MK.putL (MT.next s6 hbl) hrd
  clear s6 hrd hbl
  obtain ⟨m0, m1, m2⟩ := BxM.cells (MK.get s7 3 rfl)
  go_upto_region 5 with fail
  obtain ⟨q0, q1, q2⟩ := u8_cells3 (MK.get s7 5 rfl)
  go_quiet (fail)
  simp only [hw0, hw1, hw2]
  try rw [hs2]
  try rw [ht2]
  try rw [hu2]
  have s8 := MT.next s7 (below_drewN' (Below.refl w5.heap.size w5) nq)
  clear s7 m0 m1 m2 q0 q1 q2 hs2 ht2 hu2 hw0 hw1 hw2 hsq htq huq
  obtain ⟨m0, m1, m2⟩ := BxM.cells (MK.get s8 3 rfl)
  go_wp2_with fail
  clear m0 m1 m2
  refine (CS R c1 _ WA wl wc hwl.out (MK.get s8 4 rfl) (MK.get s8 2 rfl) (by omega)).mono ?_
  rintro e v1 ⟨rfl, hbl⟩
  have t1 := MT.next s8 hbl
  clear s8 hbl
  obtain ⟨m0, m1, m2⟩ := BxM.cells (MK.get t1 3 rfl)
  go_wp2_with fail
  clear m0 m1 m2
  refine (CT R c1 _ ZA zl zc hzl.out (MK.get t1 4 rfl) (MK.get t1 0 rfl) (by omega)).mono ?_
  rintro e v2 ⟨rfl, hbl⟩
  have t2 := MT.next t1 hbl
  clear t1 hbl
  obtain ⟨m0, m1, m2⟩ := BxM.cells (MK.get t2 3 rfl)
  go_wp2_with fail
  clear m0 m1 m2
  refine (CU R c1 _ WA wl wc hwl.out (MK.get t2 4 rfl) (MK.get t2 2 rfl) (by omega)).mono ?_
  rintro e v3 ⟨rfl, hbl⟩
  have t3 := MT.next t2 hbl
  clear t2 hbl
  obtain ⟨m0, m1, m2⟩ := BxM.cells (MK.get t3 3 rfl)
  go_wp2_with fail
  clear m0 m1 m2
  refine (CV R c1 _ WA wl wc hwl.out (MK.get t3 4 rfl) (MK.get t3 2 rfl) (by omega)).mono ?_
  rintro e v4 ⟨rfl, hbl⟩
  have t4 := MT.next t3 hbl
  clear t3 hbl CS CT CU CV
  have lg : g < v4.heap.size := heap_lt (MK.get t4 3 rfl)
  obtain ⟨m0, m1, m2⟩ := BxM.cells (MK.get t4 3 rfl)
  have hrR : RdR v4 R M.r := MK.get t4 4 rfl
  have hrW : Rd v4 WA X1 := MK.get t4 2 rfl
  have CY := fun hb => rspl_yes M i o R WA n c1 wl wc X1 v4 s t V.out hmi.out hmo.out hlen.out hwl.out hrR hrW HW1.out hsn htn (by omega) hb
  have CN := fun hb => rspl_no M i o R WA n c1 wl wc X1 v4 s t V.out hmi.out hmo.out hlen.out hwl.out hrR hrW HW1.out hsn htn (by omega) hb
  have hbF := Lib.hid t4.2.1
  clear t4 lg hrR hrW
  rcases KEY.out with rfl | ⟨rfl, rfl, rfl⟩ | ⟨rfl, rfl, rfl, rfl⟩
  all_goals
    go_wp2_with fail
    clear m0 m1 m2
    first
      | refine (CY HBA.out).mono ?_
      | refine (CN HBA.out).mono ?_
    rintro e v5 ⟨rfl, hb5⟩
    go_wp2_with fail
    refine (slives_walk _).mono ?_
    rintro e v6 ⟨rfl, hb6⟩
    have hbE := below_next (below_next hbF.out hb5) hb6
    clear hb5 hb6 CY CN
    go_wp2_with fail
    go_ret
    exact ⟨rfl, hbE⟩
end Go.Proofs.Ytonnplhiaidjnaa
