/-
  Contracts: equals.keeps, equals.CheckRelation. No statement is proved here.
-/
import Derived.Test.YtiamkkgnjobljaaEa8
namespace Go.Proofs.Ytiamkkgnjobljaa
open Go.RowKit
open Mc (Ed Ma Wv)

/-- The edges of a pair of states keep a relation. -/
def kps (a b : Ma) (S : List (Int × Int)) (s t : Int) : Prop := ∀ d : Int, 0 ≤ d → d < a.i → (Mc.nx a s d).2 = (Mc.nx b t d).2 ∧ ((Mc.nx a s d).1 = -1 ∨ ((Mc.nx a s d).1, (Mc.nx b t d).1) ∈ S)
/-- What keeps hands back. -/
def KpP (w : World) (a b : Ma) (S : List (Int × Int)) (s t : Int) (e : Ending) (w' : World) : Prop := ∃ is : Bool, e = .returned (.bool is) ∧ (is = true ↔ kps a b S s t) ∧ Below w.heap.size w w'
set_option maxRecDepth 100000 in
set_option maxHeartbeats 4000000 in
theorem keeps_any (a b : Ma) (va : Mc.Val a) (vb : Mc.Val b) (hi : a.i = b.i) (A B : Option Addr) (n c n2 c2 mb N : Nat) (S : List (Int × Int)) (s t : Nat) (w : World) (hra : RdR w A a.r) (hn : a.r.length = n) (hrb : RdR w B b.r) (hn2 : b.r.length = n2) (hm : PSet w mb N S) (hs : s < n) (ht : t < n2) :
    Calls Try.prog 61 #[.agg #[.int .i64 a.i, .int .i64 a.o, .slice A n c], .agg #[.int .i64 b.i, .int .i64 b.o, .slice B n2 c2], .map (some mb), .agg #[.int .i64 s, .int .i64 t]] w (KpP w a b S s t) := by
  obtain ⟨h, hh⟩ : ∃ h, w.heap.size = h := ⟨_, rfl⟩
  obtain ⟨W1, hW1⟩ : ∃ W1, (boxM (boxM w a.i a.o A n c) b.i b.o B n2 c2).alloc (.cells #[.int .i64 s, .int .i64 t] 95) = W1 := ⟨_, rfl⟩
  have HB : Below w.heap.size w W1 := by rw [← hW1]; exact (((Below.refl _ _).alloc (Nat.le_refl _) _).alloc (by simp) _).alloc (by simp; omega) _
  have HMA : BxM W1 h a.i a.o A n c := by rw [← hW1]; exact ((BxM.newE hh a.i a.o A n c).mvB ((Below.refl _ _).alloc (Nat.le_refl _) _)).mvB ((Below.refl _ _).alloc (Nat.le_refl _) _)
  have HMB : BxM W1 (h + 1) b.i b.o B n2 c2 := by rw [← hW1]; exact (BxM.newE (by simp [boxM, hh]) b.i b.o B n2 c2).mvB ((Below.refl _ _).alloc (Nat.le_refl _) _)
  have hp0 : W1.cell? ⟨h + 1 + 1, 0, none⟩ = some (.int .i64 s) := by
    rw [← hW1, World.cell?_alloc_at _ _ _ _ (by simp [boxM, hh])]
    rfl
  have hp1 : W1.cell? ⟨h + 1 + 1, 1, none⟩ = some (.int .i64 t) := by
    rw [← hW1, World.cell?_alloc_at _ _ _ _ (by simp [boxM, hh])]
    rfl
  obtain ⟨b1, o1, R1, d1, m1, row1, rfl, hb1, hcw1, _, _, _, hpw1, hln1, hqr1⟩ := hra.at_ (show s < a.r.length by rw [hn]; exact hs)
  obtain ⟨b2, o2, R2, d2, m2, row2, rfl, hb2, hcw2, _, _, _, hpw2, hln2, hqr2⟩ := hrb.at_ (show t < b.r.length by rw [hn2]; exact ht)
  have hm1 : Hid ((m1 : Int) = a.i) := by show _ = _; rw [← hln1.out]; exact va.len row1 (List.mem_of_getElem? hqr1.out)
  have hm2 : m2 = m1 := by
    have h1 := vb.len row2 (List.mem_of_getElem? hqr2.out)
    rw [hln2.out, ← hi, ← hm1.out] at h1
    omega
  subst hm2
  have hm16 : m2 ≤ 16 := by have := hm1.out; have := va.i1; omega
  have hSt : Hid (Mc.St a s) := Or.inr ⟨by omega, by rw [hn]; omega⟩
  have hSt2 : Hid (Mc.St b t) := Or.inr ⟨by omega, by rw [hn2]; omega⟩
  have VA := Lib.hid va
  have VB := Lib.hid vb
  have HI := Lib.hid hi
  have HN := Lib.hid hn
  have HN2 := Lib.hid hn2
  have HM := Lib.hid (hm.below HB)
  have hs1 : (s : Int) < n := by omega
  have ht1 : (t : Int) < n2 := by omega
  have r0 := (HB.cell (p := ⟨b1, o1 + s, none⟩) hb1).trans hcw1
  have r1 := (HB.cell (p := ⟨b2, o2 + t, none⟩) hb2).trans hcw2
  have RC : Hid (∀ wr, Below W1.heap.size W1 wr → ∀ b o v, b < w.heap.size → w.cell? ⟨b, o, none⟩ = some v → wr.cell? ⟨b, o, none⟩ = some v) := fun wr hb b o v hbl hv => ((below_next HB hb).cell (p := ⟨b, o, none⟩) hbl).trans hv
  have RP : Hid (∀ wr, Below W1.heap.size W1 wr → wr.cell? ⟨h + 1, 2, none⟩ = some (.slice (some ⟨b2, o2, none⟩) n2 c2) ∧ wr.cell? ⟨h + 1 + 1, 1, none⟩ = some (.int .i64 t) ∧ wr.cell? ⟨b2, o2 + t, none⟩ = some (.slice R2 m2 d2)) := fun wr hb => by
    have hsz : h + 1 + 1 < W1.heap.size := by rw [← hW1, ← hh]; simp [boxM]
    exact ⟨(HMB.mvB hb).cells.2.2, (hb.cell (p := ⟨h + 1 + 1, 1, none⟩) hsz).trans hp1, RC.out wr hb b2 _ _ hb2 hcw2⟩
  have HBB := Lib.hid HB
  obtain ⟨x0, x1, x2⟩ := HMA.cells
  obtain ⟨y0, y1, y2⟩ := HMB.cells
  clear HB HMA HMB va vb hi hn hn2 hm hcw1 hcw2 hra hrb
  obtain ⟨ai, hai⟩ : ∃ x, a.i = x := ⟨_, rfl⟩
  obtain ⟨ao, hao⟩ : ∃ x, a.o = x := ⟨_, rfl⟩
  obtain ⟨bi, hbi⟩ : ∃ x, b.i = x := ⟨_, rfl⟩
  obtain ⟨bo, hbo⟩ : ∃ x, b.o = x := ⟨_, rfl⟩
  simp only [hai, hao, hbi, hbo] at x0 x1 x2 y0 y1 y2 hW1 ⊢
  have HAI := Lib.hid hai
  clear hai hao hbi hbo
  subst hh
  go_enter Try.func61, Try.ntmps61
  go_wp2_with fail
  go_loopw [19] (fun z wr => ∃ j : Nat, j ≤ m2 ∧ z = .int .i64 j ∧ Hid (∀ d : Int, 0 ≤ d → d < j → (Mc.nx a s d).2 = (Mc.nx b t d).2 ∧ ((Mc.nx a s d).1 = -1 ∨ ((Mc.nx a s d).1, (Mc.nx b t d).1) ∈ S)) ∧ Hid (Below W1.heap.size W1 wr)) (fun z _ => m2 - (intOf z).toNat)
  case atStart => exact ⟨0, by omega, rfl, fun d h0 h1 => by omega, Below.refl _ _⟩
  case round =>
    clear x0 x1 x2 y0 y1 y2 r0 r1 hp0 hp1
    obtain ⟨j, hj, rfl, hsm, hbr⟩ := hrel
    by_cases hjl : j < m2
    · obtain ⟨e1, f1, ex, eo, rfl, he1, hx0, hy0, hqe1⟩ := hpw1.at_ (k := j) (by rw [hln1.out]; exact hjl)
      obtain ⟨e2, f2, fx, fo, rfl, he2, hx2, hy2, hqe2⟩ := hpw2.at_ (k := j) (by rw [hln2.out]; exact hjl)
      have z0 := RC.out wr hbr.out e1 (f1 + j * 2) _ he1 hx0
      have z1 := RC.out wr hbr.out e1 (f1 + j * 2 + 1) _ he1 hy0
      have hjl' : (j : Int) < m2 := by omega
      have hsz := hbr.out.size
      have hbE : Below W1.heap.size W1 (wr.alloc (.cells #[.int .i64 ex, .int .i64 eo] 27)) := hbr.out.alloc hsz _
      obtain ⟨y2, y3, y4⟩ := RP.out _ hbE
      have y0 := RC.out _ hbE e2 (f2 + j * 2) _ he2 hx2
      have y1 := RC.out _ hbE e2 (f2 + j * 2 + 1) _ he2 hy2
      have hbE2 : Below W1.heap.size W1 ((wr.alloc (.cells #[.int .i64 ex, .int .i64 eo] 27)).alloc (.cells #[.int .i64 fx, .int .i64 fo] 27)) := hbE.alloc (by rw [World.size_alloc]; omega) _
      have HB5 := Lib.hid hbE2
      have hne1 : Mc.nx a s j = (ex, eo) := Mc.nx_at hqr1.out hqe1.out
      have hne2 : Mc.nx b t j = (fx, fo) := Mc.nx_at hqr2.out hqe2.out
      have hja : (0 : Int) ≤ j ∧ (j : Int) < a.i := ⟨by omega, by rw [← hm1.out]; omega⟩
      have hjb : (0 : Int) ≤ j ∧ (j : Int) < b.i := ⟨hja.1, by rw [← HI.out]; exact hja.2⟩
      have hn1 := Mc.nx_st VA.out hSt.out hja
      have hn2 := Mc.nx_st VB.out hSt2.out hjb
      rw [hne1] at hn1
      rw [hne2] at hn2
      have HN1 := Lib.hid hne1
      have HN2' := Lib.hid hne2
      have hLK : Hid (InQ (ex, fx) → (Instr.lookup 107 (.map (some mb)) (.agg #[.int .i64 ex, .int .i64 fx]) false).run Try.prog ((wr.alloc (.cells #[.int .i64 ex, .int .i64 eo] 27)).alloc (.cells #[.int .i64 fx, .int .i64 fo] 27)) = .ok (.bool (decide ((ex, fx) ∈ S))) ((wr.alloc (.cells #[.int .i64 ex, .int .i64 eo] 27)).alloc (.cells #[.int .i64 fx, .int .i64 fo] 27))) := fun hp => (HM.out.below hbE2).look hp
      have hbF := Lib.hid (below_next HBB.out hbE2)
      have hst : Hid (∀ d : Int, 0 ≤ d → d < ((j + 1 : Nat) : Int) → d < j ∨ d = j) := fun d h0 h1 => by omega
      have hJA := Lib.hid hja
      have hN1 := Lib.hid hn1
      have hN2 := Lib.hid hn2
      clear hbE hbE2 hx0 hy0 hx2 hy2 he1 he2 hqe1 hqe2 hne1 hne2 hja hjb hn1 hn2 hbr
      by_cases hoo : eo = fo
      · have hob : (eo == fo) = true := by rw [hoo]; exact beq_self_eq_true _
        by_cases hx : ex = -1
        · have hsm2 : Hid (∀ d : Int, 0 ≤ d → d < ((j + 1 : Nat) : Int) → (Mc.nx a s d).2 = (Mc.nx b t d).2 ∧ ((Mc.nx a s d).1 = -1 ∨ ((Mc.nx a s d).1, (Mc.nx b t d).1) ∈ S)) := fun d h0 h1 => by
            rcases hst.out d h0 h1 with h | rfl
            · exact hsm.out d h0 h
            · rw [HN1.out, HN2'.out]
              exact ⟨hoo, Or.inl hx⟩
          subst hx hoo
          clear hob
          go_wp2
          go_roundw
          case rel => exact ⟨j + 1, by omega, by go_num, hsm2, HB5⟩
          case measure => simp [intOf]; omega
        · have hxb : (ex == -1) = false := by rw [beq_eq_false_iff_ne]; exact hx
          have hin : InQ (ex, fx) := by
            obtain ⟨h1, h2, h3, h4, h5⟩ := hN1.out
            obtain ⟨k1, k2, k3, k4, k5⟩ := hN2.out
            simp only at h1 h2 h3 h4 h5 k1 k2 k3 k4 k5
            have l1 := VA.out.r1
            have l2 := VB.out.r1
            have e1 : 0 ≤ ex ∧ ex < a.r.length := h1.resolve_left hx
            have e2 : fx ≠ -1 := fun e => by have := k2 e; have := h5 e1.1; omega
            have e3 : 0 ≤ fx ∧ fx < b.r.length := k1.resolve_left e2
            refine ⟨⟨?_, ?_⟩, ?_, ?_⟩ <;> simp only <;> omega
          have hlook := hLK.out hin
          have HX := Lib.hid hx
          by_cases hmem : (ex, fx) ∈ S
          · rw [decide_eq_true hmem] at hlook
            have hsm2 : Hid (∀ d : Int, 0 ≤ d → d < ((j + 1 : Nat) : Int) → (Mc.nx a s d).2 = (Mc.nx b t d).2 ∧ ((Mc.nx a s d).1 = -1 ∨ ((Mc.nx a s d).1, (Mc.nx b t d).1) ∈ S)) := fun d h0 h1 => by
              rcases hst.out d h0 h1 with h | rfl
              · exact hsm.out d h0 h
              · rw [HN1.out, HN2'.out]
                exact ⟨hoo, Or.inr hmem⟩
            subst hoo
            clear hob hin hmem hx
            go_wp2
            go_roundw
            case rel => exact ⟨j + 1, by omega, by go_num, hsm2, HB5⟩
            case measure => simp [intOf]; omega
          · rw [decide_eq_false hmem] at hlook
            have hno : Hid (¬ kps a b S s t) := fun hk => by
              have h1 := (hk j hJA.out.1 hJA.out.2).2
              rw [HN1.out, HN2'.out] at h1
              rcases h1 with h1 | h1
              · exact HX.out h1
              · exact hmem h1
            subst hoo
            clear hob hin hmem hx
            go_wp2
            go_ret
            exact ⟨false, rfl, ⟨(fun h => by cases h), fun h => absurd h hno.out⟩, hbF.out⟩
      · have hob : (eo == fo) = false := by rw [beq_eq_false_iff_ne]; exact hoo
        have hno : Hid (¬ kps a b S s t) := fun hk => by
          have h1 := (hk j hJA.out.1 hJA.out.2).1
          rw [HN1.out, HN2'.out] at h1
          exact hoo h1
        go_wp2
        go_ret
        exact ⟨false, rfl, ⟨(fun h => by cases h), fun h => absurd h hno.out⟩, hbF.out⟩
    · obtain rfl : j = m2 := by omega
      have hlt : ¬ ((j : Int) < j) := by omega
      have hyes : Hid (kps a b S s t) := fun d h0 h1 => hsm.out d h0 (by rw [hm1.out]; exact h1)
      have hbF := Lib.hid (below_next HBB.out hbr.out)
      go_wp2
      go_ret
      exact ⟨true, rfl, ⟨fun _ => hyes.out, fun _ => rfl⟩, hbF.out⟩
end Go.Proofs.Ytiamkkgnjobljaa
