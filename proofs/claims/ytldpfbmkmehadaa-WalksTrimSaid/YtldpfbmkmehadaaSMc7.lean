/-
  Contracts: the reference's Same of machines.
-/
import Derived.Test.YtldpfbmkmehadaaSMc3
import Derived.Laws.StructEq
namespace Go.Proofs.Ytldpfbmkmehadaa
open Go.RowKit
open Mc (Ed Ma)

theorem edge_under : Try.prog.underlying 49 = some (.struct (Try.prog.fieldsOf 49)) := by kernel_rfl
theorem edge_stood : Try.prog.stoodInHeld 49 = false := by kernel_rfl
theorem edge_guard : Try.prog.eqGuardType Try.prog.depth 49 = false := by kernel_rfl
theorem part_a (a b : Int) (w : World) : (part 3 #[.int .i64 a, .int .i64 b] 0).run Try.prog w = .ok (.int .i64 a) w := by kernel_rfl
theorem part_b (a b : Int) (w : World) : (part 3 #[.int .i64 a, .int .i64 b] 1).run Try.prog w = .ok (.int .i64 b) w := by kernel_rfl
theorem edge_fields : ((Try.prog.fieldsOf 49).toList.map fun f => (f.name != "_", f.type, f.offset)) = [(true, 3, 0), (true, 3, 1)] := by kernel_rfl
theorem two_fields {L : List Field} {a b : TypeId} (h : (L.map fun f => (f.name != "_", f.type, f.offset)) = [(true, a, 0), (true, b, 1)]) : ∃ f g, L = [f, g] ∧ f.name ≠ "_" ∧ f.type = a ∧ f.offset = 0 ∧ g.name ≠ "_" ∧ g.type = b ∧ g.offset = 1 := by
  cases L with
  | nil => cases h
  | cons f L =>
    cases L with
    | nil => simp at h
    | cons g L =>
      cases L with
      | cons x L => simp at h
      | nil =>
        simp only [List.map_cons, List.map_nil, List.cons.injEq, Prod.mk.injEq, and_true] at h
        obtain ⟨⟨h1, h2, h3⟩, h4, h5, h6⟩ := h
        exact ⟨f, g, rfl, by simpa using h1, h2, h3, by simpa using h4, h5, h6⟩
theorem run_equal_edge (a b a' b' : Int) (w : World) : (Op.equalIn 10000 49 (.agg #[.int .i64 a, .int .i64 b]) (.agg #[.int .i64 a', .int .i64 b'])).run Try.prog w = .ok ((a == a') && (b == b')) w := by
  rw [run_equalIn_struct w 9999 _ _ _ edge_under edge_stood]
  obtain ⟨f, g, e, h1, h2, h3, h4, h5, h6⟩ := two_fields edge_fields
  rw [e, Op.eqFields, if_pos h1, h2, h3, Op.eqFields, if_pos h4, h5, h6, Op.eqFields]
  rw [Sem.run_bind, part_a, Result.andThen_ok, Sem.run_bind, part_a, Result.andThen_ok, Sem.run_bind, run_equalIn_int (P := Try.prog) _ 9998 3 .i64 .i64 _ _ Try.underlying3, Result.andThen_ok]
  cases h7 : (a == a')
  · rfl
  · rw [Bool.not_true, if_neg (by decide)]
    rw [Sem.run_bind, part_b, Result.andThen_ok, Sem.run_bind, part_b, Result.andThen_ok, Sem.run_bind, run_equalIn_int (P := Try.prog) _ 9998 3 .i64 .i64 _ _ Try.underlying3, Result.andThen_ok]
    cases h8 : (b == b')
    · rfl
    · rw [Bool.not_true, if_neg (by decide)]; rfl
theorem run_neq_edge (a b a' b' : Int) (w : World) : (binOp .neq 49 (.agg #[.int .i64 a, .int .i64 b]) (.agg #[.int .i64 a', .int .i64 b'])).run Try.prog w = .ok (.bool (!((a == a') && (b == b')))) w := by
  rw [run_neq_struct, run_equal_edge]; rfl
namespace Mc
theorem take_snoc {α : Type} {x y : List α} {k : Nat} {u v : α} (hx : x[k]? = some u) (hy : y[k]? = some v) (h : x.take k = y.take k) (e : u = v) : x.take (k + 1) = y.take (k + 1) := by
  rw [List.take_add_one, List.take_add_one, h, hx, hy, e]
theorem ne_at {α : Type} {x y : List α} {k : Nat} {u v : α} (hx : x[k]? = some u) (hy : y[k]? = some v) (e : u ≠ v) : x ≠ y := fun h => by
  rw [h, hy] at hx
  injection hx with hx
  exact e hx.symm
end Mc
/-- A world in which two machines lie in boxes of the call's own. -/
abbrev boxM2 (w : World) (i o : Int) (A : Option Addr) (n c : Nat) (i' o' : Int) (B : Option Addr) (n' d : Nat) : World := (boxM w i o A n c).alloc (.cells #[.int .i64 i', .int .i64 o', .slice B n' d] 27)
section
variable {w wr : World} {i o i' o' : Int} {A B : Option Addr} {n c n' d : Nat}
theorem box2_cells (h : Below (w.heap.size + 2) (boxM2 w i o A n c i' o' B n' d) wr) :
    wr.cell? ⟨w.heap.size, 0, none⟩ = some (.int .i64 i) ∧ wr.cell? ⟨w.heap.size, 1, none⟩ = some (.int .i64 o) ∧ wr.cell? ⟨w.heap.size, 2, none⟩ = some (.slice A n c) ∧
    wr.cell? ⟨w.heap.size + 1, 0, none⟩ = some (.int .i64 i') ∧ wr.cell? ⟨w.heap.size + 1, 1, none⟩ = some (.int .i64 o') ∧ wr.cell? ⟨w.heap.size + 1, 2, none⟩ = some (.slice B n' d) := by
  have e : w.heap.size + 1 = (boxM w i o A n c).heap.size := by simp
  refine ⟨?_, ?_, ?_, ?_, ?_, ?_⟩
  · rw [h.cell (p := ⟨w.heap.size, 0, none⟩) (by simp), World.cell?_alloc_past _ _ _ (by simp), World.cell?_alloc_at _ _ _ _ rfl]; rfl
  · rw [h.cell (p := ⟨w.heap.size, 1, none⟩) (by simp), World.cell?_alloc_past _ _ _ (by simp), World.cell?_alloc_at _ _ _ _ rfl]; rfl
  · rw [h.cell (p := ⟨w.heap.size, 2, none⟩) (by simp), World.cell?_alloc_past _ _ _ (by simp), World.cell?_alloc_at _ _ _ _ rfl]; rfl
  · rw [h.cell (p := ⟨w.heap.size + 1, 0, none⟩) (by simp), World.cell?_alloc_at _ _ _ _ e]; rfl
  · rw [h.cell (p := ⟨w.heap.size + 1, 1, none⟩) (by simp), World.cell?_alloc_at _ _ _ _ e]; rfl
  · rw [h.cell (p := ⟨w.heap.size + 1, 2, none⟩) (by simp), World.cell?_alloc_at _ _ _ _ e]; rfl
theorem box2_below (h : Below (w.heap.size + 2) (boxM2 w i o A n c i' o' B n' d) wr) : Below w.heap.size w wr := (((Below.refl _ _).alloc (Nat.le_refl _) _).alloc (by simp) _).trans (h.mono (by omega))
end
set_option maxRecDepth 100000 in
set_option maxHeartbeats 4000000 in
theorem rmsame_any (a b : Ma) (A B : Option Addr) (c d : Nat) (w : World) (ha : RdR w A a.r) (hb : RdR w B b.r) (hl : a.r.length ≤ 1000000) (hl2 : ∀ row ∈ a.r, row.length ≤ 1000000) :
    Calls Try.prog 31 #[.agg #[.int .i64 a.i, .int .i64 a.o, .slice A a.r.length c], .agg #[.int .i64 b.i, .int .i64 b.o, .slice B b.r.length d]] w fun e w' => e = .returned (.bool (decide (a = b))) ∧ Below w.heap.size w w' := by
  obtain ⟨i, o, rs⟩ := a
  obtain ⟨i', o', qs⟩ := b
  simp only at ha hb hl hl2 ⊢
  have hl2 := Lib.hid hl2
  have hno : Hid (¬ (i = i' ∧ o = o' ∧ rs = qs) → decide ((⟨i, o, rs⟩ : Ma) = ⟨i', o', qs⟩) = false) := fun h => decide_eq_false (fun e => h (by injection e with e1 e2 e3; exact ⟨e1, e2, e3⟩))
  have hyes : Hid (i = i' ∧ o = o' ∧ rs = qs → decide ((⟨i, o, rs⟩ : Ma) = ⟨i', o', qs⟩) = true) := fun ⟨h1, h2, h3⟩ => decide_eq_true (by rw [h1, h2, h3])
  obtain ⟨r, hr⟩ : ∃ r, decide ((⟨i, o, rs⟩ : Ma) = ⟨i', o', qs⟩) = r := ⟨_, rfl⟩
  rw [hr] at hno hyes ⊢
  clear hr
  have hb0 : Below (w.heap.size + 2) (boxM2 w i o A rs.length c i' o' B qs.length d) (boxM2 w i o A rs.length c i' o' B qs.length d) := Below.refl _ _
  have hbw := box2_below hb0
  by_cases h1 : ¬ i = i'
  · have h1' : (i == i') = false := by rw [beq_eq_false_iff_ne]; exact h1
    have hf := Lib.hid (hno.out fun h => h1 h.1)
    clear hno hyes
    go_enter Try.func31, Try.ntmps31
    go_wp2
    go_ret
    exact ⟨ret_bool hf.out.symm, hbw⟩
  obtain rfl := Classical.not_not.1 h1
  have h1' : (i == i) = true := beq_self_eq_true _
  clear h1
  by_cases h2 : ¬ o = o'
  · have h2' : (o == o') = false := by rw [beq_eq_false_iff_ne]; exact h2
    have hf := Lib.hid (hno.out fun h => h2 h.2.1)
    clear hno hyes
    go_enter Try.func31, Try.ntmps31
    go_wp2
    go_ret
    exact ⟨ret_bool hf.out.symm, hbw⟩
  obtain rfl := Classical.not_not.1 h2
  have h2' : (o == o) = true := beq_self_eq_true _
  clear h2
  by_cases h3 : ¬ rs.length = qs.length
  · have h3' : ((rs.length : Int) == qs.length) = false := by rw [beq_eq_false_iff_ne]; omega
    have hf := Lib.hid (hno.out fun h => h3 (by rw [h.2.2]))
    clear hno hyes
    go_enter Try.func31, Try.ntmps31
    go_wp2
    go_ret
    exact ⟨ret_bool hf.out.symm, hbw⟩
  have h3 := Classical.not_not.1 h3
  obtain ⟨L, hL⟩ : ∃ L, rs.length = L := ⟨_, rfl⟩
  have hQ : qs.length = L := by omega
  have h3' : ((L : Int) == L) = true := beq_self_eq_true _
  rw [hL, hQ]
  rw [hL] at hl hb0 hbw
  rw [hQ] at hb0 hbw
  have H3 := Lib.hid hL
  have H4 := Lib.hid hQ
  clear h3 hL hQ hb0 hbw
  go_enter Try.func31, Try.ntmps31
  go_wp2
  go_loopw [5] (fun v wr => ∃ k : Nat, k ≤ L ∧ v = .int .i64 k ∧ Hid (rs.take k = qs.take k) ∧ Below (w.heap.size + 2) (boxM2 w i o A L c i o B L d) wr) (fun v _ => L - (intOf v).toNat)
  case atStart => exact ⟨0, Nat.zero_le _, rfl, by simp [Hid], Below.refl _ _⟩
  case round =>
    obtain ⟨k, hk, rfl, hn, hbr⟩ := hrel
    obtain ⟨q0, q1, q2, q3, q4, q5⟩ := box2_cells hbr
    by_cases hlt : k < L
    · obtain ⟨b, off, X, cx, n, row, rfl, hbb, hcw, _, _, _, hpw, hln, hq⟩ := ha.at_ (k := k) (by have := H3.out; omega)
      obtain ⟨b2, off2, Y, cy, m, row2, rfl, hbb2, hcw2, _, _, _, hpw2, hln2, hq2⟩ := hb.at_ (k := k) (by have := H4.out; omega)
      have hkq : (k : Int) < L := by omega
      have hc := ((bcell (box2_below hbr)).1 b (off + k) hbb).trans hcw
      have hc2 := ((bcell (box2_below hbr)).1 b2 (off2 + k) hbb2).trans hcw2
      by_cases hnm : n = m
      · subst hnm
        have hnm' : ((n : Int) == n) = true := beq_self_eq_true _
        have hn6 : n ≤ 1000000 := by rw [← hln.out]; exact hl2.out row (List.mem_of_getElem? hq.out)
        go_wp2
        go_quiet (fail)
        go_wp2
        obtain ⟨wo, rfl⟩ : ∃ wo : World, wo = wr := ⟨_, rfl⟩
        go_loopw [6] (fun v wr => ∃ j : Nat, j ≤ n ∧ v = .int .i64 j ∧ Hid (row.take j = row2.take j) ∧ Below (w.heap.size + 2) (boxM2 w i o (some ⟨b, off, none⟩) L c i o (some ⟨b2, off2, none⟩) L d) wr) (fun v _ => n - (intOf v).toNat)
        case atStart => exact ⟨0, Nat.zero_le _, rfl, by simp [Hid], below_drewN' hbr _⟩
        case round =>
          clear q0 q1 q2 q3 q4 q5 hc hc2
          obtain ⟨j, hj, rfl, hnj, hbr2⟩ := hrel
          obtain ⟨q0, q1, q2, q3, q4, q5⟩ := box2_cells hbr2
          have hc := ((bcell (box2_below hbr2)).1 b (off + k) hbb).trans hcw
          have hc2 := ((bcell (box2_below hbr2)).1 b2 (off2 + k) hbb2).trans hcw2
          by_cases hjl : j < n
          · obtain ⟨b3, off3, x, y, rfl, hb3, hx0, hy0, hqe⟩ := hpw.at_ (k := j) (by rw [hln.out]; exact hjl)
            obtain ⟨b4, off4, x', y', rfl, hb4, hx0', hy0', hqe'⟩ := hpw2.at_ (k := j) (by rw [hln2.out]; exact hjl)
            have hx := ((bcell (box2_below hbr2)).1 b3 (off3 + j * 2) hb3).trans hx0
            have hy := ((bcell (box2_below hbr2)).1 b3 (off3 + j * 2 + 1) hb3).trans hy0
            have hx' := ((bcell (box2_below hbr2)).1 b4 (off4 + j * 2) hb4).trans hx0'
            have hy' := ((bcell (box2_below hbr2)).1 b4 (off4 + j * 2 + 1) hb4).trans hy0'
            by_cases he : x = x' ∧ y = y'
            · have hrun : ∀ w, (binOp .neq 49 (.agg #[.int .i64 x, .int .i64 y]) (.agg #[.int .i64 x', .int .i64 y'])).run Try.prog w = .ok (.bool false) w := fun w => by
                rw [run_neq_edge, he.1, he.2]; simp
              have hgo := Lib.hid (Mc.take_snoc hqe.out hqe'.out hnj.out (by rw [he.1, he.2]))
              clear he
              go_wp2
              go_quiet (fail)
              go_wp2
              go_roundw
              case rel => exact ⟨j + 1, by omega, by go_num, hgo, below_drewN' hbr2 _⟩
              case measure => simp [intOf]; omega
            · have hrun : ∀ w, (binOp .neq 49 (.agg #[.int .i64 x, .int .i64 y]) (.agg #[.int .i64 x', .int .i64 y'])).run Try.prog w = .ok (.bool true) w := fun w => by
                rw [run_neq_edge]
                have : ((x == x') && (y == y')) = false := by
                  cases h : ((x == x') && (y == y')) with
                  | false => rfl
                  | true => simp at h; exact absurd h he
                rw [this]; rfl
              have hf := Lib.hid (hno.out fun h => Mc.ne_at hq.out hq2.out (Mc.ne_at hqe.out hqe'.out (fun e => he (by injection e with e1 e2; exact ⟨e1, e2⟩))) h.2.2)
              clear he
              go_wp2
              go_quiet (fail)
              go_wp2
              go_ret
              exact ⟨ret_bool hf.out.symm, below_drewN' (box2_below hbr2) _⟩
          · have hgo : Hid (rs.take (k + 1) = qs.take (k + 1)) := by
              have h := hnj.out
              rw [List.take_of_length_le (by rw [hln.out]; omega), List.take_of_length_le (by rw [hln2.out]; omega)] at h
              exact Mc.take_snoc hq.out hq2.out hn.out h
            go_wp2
            go_roundw
            case rel => exact ⟨k + 1, by omega, by go_num, hgo, hbr2⟩
            case measure => simp [intOf]; omega
      · have hnm' : ((n : Int) == m) = false := by rw [beq_eq_false_iff_ne]; omega
        have hf := Lib.hid (hno.out fun h => Mc.ne_at hq.out hq2.out (fun e => hnm (by rw [← hln.out, ← hln2.out, e])) h.2.2)
        go_wp2
        go_quiet (fail)
        go_wp2
        go_ret
        exact ⟨ret_bool hf.out.symm, below_drewN' (box2_below hbr) _⟩
    · have hf := Lib.hid (hyes.out ⟨trivial, trivial, by
        have h := hn.out
        rw [List.take_of_length_le (by have := H3.out; omega), List.take_of_length_le (by have := H4.out; omega)] at h
        exact h⟩)
      go_wp2
      go_ret
      exact ⟨ret_bool hf.out.symm, box2_below hbr⟩
end Go.Proofs.Ytldpfbmkmehadaa
