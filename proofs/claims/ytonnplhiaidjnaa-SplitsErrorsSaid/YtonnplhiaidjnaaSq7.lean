/-
  Contracts of splits: Separates. No statement is proved here.
-/
import Derived.Test.YtonnplhiaidjnaaSq6
import Derived.Test.YtonnplhiaidjnaaRa4
import Derived.Deep.RegionHeld3
namespace Go.Proofs.Ytonnplhiaidjnaa
open Go.RowKit
open Mc (Ed Ma)

theorem equal2_any (P Q : Option Addr) (n c d : Nat) (xs ys : List Int) (b : Bool) (w : World) (h1 : Rd w P xs) (h2 : Rd w Q ys) (hx : xs.length = n) (hy : ys.length = n) (hn : n ≤ 1000000) (hb : M.same xs ys = b) :
    Calls Try.prog 56 #[.slice P n c, .slice Q n d] w fun e w' => e = .returned (.bool b) ∧ Below w.heap.size w w' := by
  have hbeq : (xs == ys) = b := by
    rw [← hb, Bool.eq_iff_iff, beq_iff_eq, Mc.same_iff']
  rw [← hbeq]
  by_cases hz : n = 0
  · subst hz
    refine (Try.slices_Equal_int_empty P Q c 0 d w (by omega)).mono ?_
    rintro e w' ⟨rfl, rfl⟩
    rw [List.eq_nil_of_length_eq_zero hx, List.eq_nil_of_length_eq_zero hy]
    exact ⟨rfl, Below.refl _ _⟩
  · obtain ⟨b1, o1, rfl, _, c1⟩ := h1 (by omega)
    obtain ⟨b2, o2, rfl, _, c2⟩ := h2 (by omega)
    refine (Try.slices_Equal_int b1 o1 n c b2 o2 n d xs ys w (by omega) (by omega) (by omega) (by omega) (fun j hj => by rw [c1 j hj]; simp) (fun j hj => by rw [c2 j hj]; simp)).mono ?_
    rintro e w' ⟨rfl, q, rfl⟩
    rw [List.take_of_length_le (by omega), List.take_of_length_le (by omega)]
    exact ⟨rfl, below_drewN' (Below.refl _ _) q⟩
section
variable (i o : Int) (rs : List (List Ed)) (A W : Option Addr) (n c kw dw : Nat) (s t : Int) (w : World)
set_option maxRecDepth 100000 in
theorem separates_err (hr : RdR w A rs) (hn : rs.length = n) (hnb : n ≤ 1000000) (hrl : ∀ row ∈ rs, row.length ≤ 1000000) (E : Int) (hE : Mc.skE ⟨i, o, rs⟩ [s, t] = E) (hne : E ≠ 0) :
    Calls Try.prog 38 #[.agg #[.int .i64 i, .int .i64 o, .slice A n c], .slice W kw dw, .int .i64 s, .int .i64 t] w fun e w' => e = .returned (.tuple #[.bool false, .int .i64 E]) ∧ Below w.heap.size w w' := by
  have b1 : Below w.heap.size w (boxM w i o A n c) := (Below.refl _ _).alloc (Nat.le_refl _) _
  have b2 : Below w.heap.size w ((boxM w i o A n c).alloc (.cells #[.int .i64 s, .int .i64 t] 3)) := b1.alloc (by simp) _
  have C1 := scheck_any i o rs A (some ⟨(boxM w i o A n c).heap.size, 0, none⟩) n c 2 2 [s, t] _ (hr.below b2) (rd_lit (boxM w i o A n c) [s, t]) hn rfl hnb hrl (by omega)
  rw [hE] at C1
  have hsz : (boxM w i o A n c).heap.size = w.heap.size + 1 := by simp
  rw [hsz] at C1
  have HB := Lib.hid b2
  have hne' : (E != 0) = true := by simp [hne]
  obtain ⟨m0, m1, m2⟩ := BxM.cells (BxM.new w i o A n c)
  clear b1 b2 hr hrl hE hsz
  go_enter Try.func38, Try.ntmps38
  go_wp2_with fail
  refine C1.mono ?_
  rintro e w1 ⟨rfl, hb1⟩
  have hbF := Lib.hid (below_next HB.out hb1)
  go_wp2_with fail
  go_returns
  exact ⟨rfl, hbF.out⟩
end
section
variable (m : Ma) (i : Nat) (o : Int) (A W : Option Addr) (n c kw dw : Nat) (ws : List Int) (s t : Nat) (w : World)
theorem two_boxed (v : Mc.Val m) (hi : m.i = i) (ho : m.o = o) (hn : m.r.length = n) (hr : RdR w A m.r) (hs : s < n) (ht : t < n) :
    ∃ W0, (boxM w i o A n c).alloc (.cells #[.int .i64 s, .int .i64 t] 3) = W0 ∧ Below w.heap.size w W0 ∧ BxM W0 w.heap.size i o A n c ∧
      Calls Try.prog 64 #[.agg #[.int .i64 i, .int .i64 o, .slice A n c], .slice (some ⟨w.heap.size + 1, 0, none⟩) 2 2] W0 fun e w' => e = .returned (.int .i64 0) ∧ Below W0.heap.size W0 w' := by
  refine ⟨_, rfl, ((Below.refl _ _).alloc (Nat.le_refl _) _).alloc (by simp) _, (BxM.new w i o A n c).mvB ((Below.refl _ _).alloc (Nat.le_refl _) _), ?_⟩
  exact box2 m i o A n c w s t 0 v hi ho hn hr (Mc.skE_ok (Mc.chk_of v) (by simp [Mc.inS]; omega))
set_option maxRecDepth 100000 in
set_option maxHeartbeats 1000000 in
theorem separates_bad (E : Int) (v : Mc.Val m) (hi : m.i = i) (ho : m.o = o) (hn : m.r.length = n) (hkw : ws.length = kw) (hr : RdR w A m.r) (hw : Rd w W ws) (hs : s < n) (ht : t < n) (hkb : kw ≤ 1000000) (hE : M.check ws m.i = E) (hE0 : E ≠ 0) :
    Calls Try.prog 38 #[.agg #[.int .i64 i, .int .i64 o, .slice A n c], .slice W kw dw, .int .i64 s, .int .i64 t] w fun e w' => e = .returned (.tuple #[.bool false, .int .i64 E]) ∧ Below w.heap.size w w' := by
  obtain ⟨W0, hW0, b2, hM, C1⟩ := two_boxed m i o A n c s t w v hi ho hn hr hs ht
  have hin : [(s : Int), (t : Int)].all (Mc.inS m) = true := by simp [Mc.inS]; omega
  have CR := fun S w hr hS hw => responses_err m i o A n c S W 2 2 kw dw [(s : Int), (t : Int)] ws E w v hi ho hn rfl hkw hr hS hw hin (by omega) (by omega) hkb hE hE0
  have HB := Lib.hid b2
  have HM := Lib.hid hM
  have HR := Lib.hid hr
  have HW := Lib.hid hw
  have hne' : (E != 0) = true := by simp [hE0]
  obtain ⟨m0, m1, m2⟩ := BxM.cells (BxM.new w i o A n c)
  clear b2 hM hr hw v hi hn hin hE hkw
  go_enter Try.func38, Try.ntmps38
  go_upto_region 1 with fail
  go_wp2_with fail
  try rw [show (w.alloc (.cells #[.int .i64 i, .int .i64 o, .slice A n c] 27)).alloc (.cells #[.int .i64 s, .int .i64 t] 3) = W0 from hW0]
  refine C1.mono ?_
  rintro e w1 ⟨rfl, hb1⟩
  have hM1 := HM.out.mvB hb1
  have hb2 := below_next HB.out hb1
  clear C1 m0 m1 m2 hb1 hW0 HM HB
  obtain ⟨m0, m1, m2⟩ := BxM.cells hM1
  obtain ⟨Q, hQ⟩ : ∃ Q, w1.alloc (.cells #[.int .i64 s, .int .i64 t] 3) = Q := ⟨_, rfl⟩
  have hbQ : Below w1.heap.size w1 Q := by rw [← hQ]; exact (Below.refl _ _).alloc (Nat.le_refl _) _
  have hbQ2 := below_next hb2 hbQ
  have hSQ : Rd Q (some ⟨w1.heap.size, 0, none⟩) [(s : Int), (t : Int)] := by rw [← hQ]; exact rd_lit w1 [(s : Int), (t : Int)]
  go_wp2_with fail
  try rw [hQ]
  refine (CR _ Q (HR.out.below hbQ2) hSQ (HW.out.below hbQ2)).mono ?_
  rintro e w2 ⟨rfl, hb3⟩
  have hbF := Lib.hid (below_next hbQ2 hb3)
  go_wp2_with fail
  go_returns
  exact ⟨rfl, hbF.out⟩
set_option maxRecDepth 100000 in
set_option maxHeartbeats 1000000 in
theorem separates_ok (b : Bool) (v : Mc.Val m) (hi : m.i = i) (ho : m.o = o) (hn : m.r.length = n) (hkw : ws.length = kw) (hr : RdR w A m.r) (hw : Rd w W ws) (hs : s < n) (ht : t < n) (hkb : kw ≤ 1000000) (hE : M.check ws m.i = 0) (hb : M.same (Mc.run m s ws) (Mc.run m t ws) = b) :
    Calls Try.prog 38 #[.agg #[.int .i64 i, .int .i64 o, .slice A n c], .slice W kw dw, .int .i64 s, .int .i64 t] w fun e w' => e = .returned (.tuple #[.bool !b, .int .i64 0]) ∧ Below w.heap.size w w' := by
  obtain ⟨W0, hW0, b2, hM, C1⟩ := two_boxed m i o A n c s t w v hi ho hn hr hs ht
  have hin : [(s : Int), (t : Int)].all (Mc.inS m) = true := by simp [Mc.inS]; omega
  have CR := fun S w hr hS hw => responses_ok m i o A n c S W 2 2 kw dw [(s : Int), (t : Int)] ws w v hi ho hn rfl hkw hr hS hw hin (by omega) hkb hE
  have HB := Lib.hid b2
  have HM := Lib.hid hM
  have HR := Lib.hid hr
  have HW := Lib.hid hw
  have HBB := Lib.hid hb
  have HKW := Lib.hid hkw
  obtain ⟨m0, m1, m2⟩ := BxM.cells (BxM.new w i o A n c)
  clear b2 hM hr hw v hi hn hin hE hkw hb
  go_enter Try.func38, Try.ntmps38
  go_upto_region 1 with fail
  go_wp2_with fail
  try rw [show (w.alloc (.cells #[.int .i64 i, .int .i64 o, .slice A n c] 27)).alloc (.cells #[.int .i64 s, .int .i64 t] 3) = W0 from hW0]
  refine C1.mono ?_
  rintro e w1 ⟨rfl, hb1⟩
  have hM1 := HM.out.mvB hb1
  have hb2 := below_next HB.out hb1
  clear C1 m0 m1 m2 hb1 hW0 HM HB
  obtain ⟨m0, m1, m2⟩ := BxM.cells hM1
  obtain ⟨Q, hQ⟩ : ∃ Q, w1.alloc (.cells #[.int .i64 s, .int .i64 t] 3) = Q := ⟨_, rfl⟩
  have hbQ : Below w1.heap.size w1 Q := by rw [← hQ]; exact (Below.refl _ _).alloc (Nat.le_refl _) _
  have hbQ2 := below_next hb2 hbQ
  have hSQ : Rd Q (some ⟨w1.heap.size, 0, none⟩) [(s : Int), (t : Int)] := by rw [← hQ]; exact rd_lit w1 [(s : Int), (t : Int)]
  go_wp2_with fail
  try rw [hQ]
  refine (CR _ Q (HR.out.below hbQ2) hSQ (HW.out.below hbQ2)).mono ?_
  rintro e w2 ⟨g, rfl, hRs, hb3⟩
  have hbF := Lib.hid (below_next hbQ2 hb3)
  clear hbQ2 hb3 hSQ hbQ hQ hb2 m0 m1 m2 hM1 CR HR HW
  obtain ⟨A0, c0, q0, r0⟩ := hRs.out.at_ (j := 0) (x := Mc.run m s ws) rfl
  obtain ⟨A1, c1, q1, r1⟩ := hRs.out.at_ (j := 1) (x := Mc.run m t ws) rfl
  rw [Mc.run_len, HKW.out] at q0 q1
  have hl0 := hRs.out.lt
  have f0 : ∀ x : BW w2, x.out.cell? ⟨g, 0, none⟩ = some (.slice A0 kw c0) := fun x => (x.ok.cell (p := ⟨g, 0, none⟩) hl0).trans q0
  have f1 : ∀ x : BW w2, x.out.cell? ⟨g, 1, none⟩ = some (.slice A1 kw c1) := fun x => (x.ok.cell (p := ⟨g, 1, none⟩) hl0).trans q1
  have CE := fun (x : BW w2) => equal2_any A0 A1 kw c0 c1 (Mc.run m s ws) (Mc.run m t ws) b x.out (r0.below x.ok) (r1.below x.ok) (by rw [Mc.run_len]; exact HKW.out) (by rw [Mc.run_len]; exact HKW.out) hkb HBB.out
  clear q0 q1
  go_upto_region 7 with fail
  refine wp_region_quiet_below (by kernel_rfl) (by kernel_rfl) ?_
  repeat (go_big_quiet_step ((rename_i x; refine (CE x).mono ?_; rintro e wy ⟨rfl, hy⟩; exact ⟨rfl, ⟨wy, below_next x.ok hy⟩, rfl⟩)))
  refine wpQuiet_nil ?_
  intro w20 hw20
  obtain ⟨⟨wx, hbW⟩, hw3⟩ := hw20
  dsimp only at hw3
  subst hw3
  have hbE := below_next hbF.out hbW
  clear f0 f1 CE
  go_wp2_with fail
  go_returns
  exact ⟨rfl, hbE⟩
end
end Go.Proofs.Ytonnplhiaidjnaa
