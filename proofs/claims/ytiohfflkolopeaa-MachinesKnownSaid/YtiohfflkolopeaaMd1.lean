/-
  Contracts: an edge that fits, one that is defined; the iterator over all edges. No statement is proved here.
-/
import Derived.Test.YtiohfflkolopeaaRf
import Derived.Test.YtiohfflkolopeaaPl
import Derived.Test.YtiohfflkolopeaaMc10
namespace Go.Proofs.Ytiohfflkolopeaa
open Go.RowKit
open Mc (Ed Ma Pe)

theorem defined_any (x y : Int) (w : World) : Calls Try.prog 39 #[.agg #[.int .i64 x, .int .i64 y]] w fun e w' => e = .returned (.bool (!decide (x = -1))) ∧ Below w.heap.size w w' := by
  go_enter Try.func39, Try.ntmps39
  by_cases h : x = -1
  · subst h
    go_wp2
    go_returns
    exact ⟨by simp, (Below.refl _ _).alloc (Nat.le_refl _) _⟩
  · have h1 : (x == -1) = false := by rw [beq_eq_false_iff_ne]; exact h
    go_wp2
    go_returns
    exact ⟨by simp [h], (Below.refl _ _).alloc (Nat.le_refl _) _⟩

/-- The values that are yielded for an edge with its place. -/
def ev (p : Pe) : Array Value := #[.agg #[.int .i64 p.1, .int .i64 p.2.1], .agg #[.int .i64 p.2.2.1, .int .i64 p.2.2.2]]

theorem edges_any (i o : Int) (A : Option Addr) (n c : Nat) (w : World) :
    Calls Try.prog 38 #[.agg #[.int .i64 i, .int .i64 o, .slice A n c]] w fun e w' => e = .returned (.func (.func 48) #[] #[.pointer (some ⟨w.heap.size, 0, none⟩)]) ∧ w' = boxM w i o A n c := by
  go_enter Try.func38, Try.ntmps38
  go_wp2
  go_ret
  exact ⟨rfl, rfl⟩

set_option maxRecDepth 100000 in
set_option maxHeartbeats 1600000 in
theorem edges1_gives (m c : Nat) (i o : Int) (A : Option Addr) (n d : Nat) (rs : List (List Ed)) (D : Nat → Prop) (w0 w : World)
    (hr : RdR w0 A rs) (hn : rs.length = n) (h0w : Below w0.heap.size w0 w) (hbx : BxM w c i o A n d) (_hDc : ¬ D c) (hD0 : ∀ b, D b → w0.heap.size ≤ b) (hnb : n ≤ 1000000) (hrl : ∀ row ∈ rs, row.length ≤ 1000000) :
    Gives m 48 #[.pointer (some ⟨c, 0, none⟩)] ((Mc.pl 0 rs).map ev) D w := by
  intro l J Jx W hW hJ hJx hY hJ0
  have hcl : c < w.heap.size := heap_lt hbx
  have k2 : W.cell? ⟨c, 2, none⟩ = some (.slice A n d) := (hW.cell (p := ⟨c, 2, none⟩) hcl).trans hbx.cells.2.2
  have hs0 : ∀ (wr : World), KC D W wr → ∀ b o v, b < w0.heap.size → w0.cell? ⟨b, o, none⟩ = some v → wr.cell? ⟨b, o, none⟩ = some v := fun wr hk b o v hb hv =>
    hk.cell (fun h => by have := hD0 b h; omega) ((hW.cell (p := ⟨b, o, none⟩) (by have := h0w.size; show b < _; omega)).trans ((h0w.cell (p := ⟨b, o, none⟩) hb).trans hv))
  have JJ := Lib.hid hJ
  have JX := Lib.hid hJx
  have YY := Lib.hid hY
  have SS := Lib.hid hs0
  have RL := Lib.hid hrl
  clear hJ hJx hY hs0 hW hbx hrl _hDc hD0 h0w hcl
  refine callsIn_of_wp Try.func48 rfl trivial ?_ rfl
  simp only [Try.ntmps48, List.size_toArray, List.length_cons, List.length_nil, Nat.reduceAdd, Nat.reduceSub, Array.replicate_succ, Array.replicate_zero, List.push_toArray, List.append_toArray, List.nil_append, List.cons_append]
  gi_wp2
  gi_loopw [10] (fun v wr => ∃ a : Nat, a ≤ n ∧ v = .int .i64 a ∧ J (Mc.pos rs a) wr ∧ KC D W wr) (fun v _ => n - (intOf v).toNat)
  case atStart => exact ⟨0, Nat.zero_le _, rfl, hJ0, ⟨Nat.le_refl _, fun _ _ _ h _ => h⟩⟩
  case round =>
    obtain ⟨a, ha, rfl, hj, hk⟩ := hrel
    clear k2 hJ0
    by_cases hlt : a < n
    · obtain ⟨b, off, B, d', q, row, rfl, hb, hcw, _, _, _, hpw, hln, hq⟩ := hr.at_ (k := a) (by omega)
      have hc := SS.out wr hk b (off + a) _ hb hcw
      have hql : q ≤ 1000000 := by rw [← hln.out]; exact RL.out row (List.mem_of_getElem? hq.out)
      gi_wp2
      gi_loopw [17] (fun v wr => ∃ j : Nat, j ≤ q ∧ v = .int .i64 j ∧ J (Mc.pos rs a + j) wr ∧ KC D W wr) (fun v _ => q - (intOf v).toNat)
      case atStart => exact ⟨0, Nat.zero_le _, rfl, hj, hk⟩
      case round =>
        obtain ⟨j, hjq, rfl, hj2, hk2⟩ := hrel
        clear hj hk hc
        by_cases hjl : j < q
        · obtain ⟨b2, off2, x, y, rfl, hb2, hx0, hy0, hqe⟩ := hpw.at_ (k := j) (by rw [hln.out]; exact hjl)
          have hx := SS.out wr hk2 b2 (off2 + j * 2) _ hb2 hx0
          have hy := SS.out wr hk2 b2 (off2 + j * 2 + 1) _ hb2 hy0
          have hat : Hid (((Mc.pl 0 rs).map ev)[Mc.pos rs a + j]? = some (ev (a, j, (x, y)))) := by
            show _ = _
            rw [List.getElem?_map, Mc.pl_at hq.out hqe.out]; rfl
          have hbA : Below wr.heap.size wr (wr.alloc (.cells #[.int .i64 x, .int .i64 y] 39)) := (Below.refl _ _).alloc (Nat.le_refl _) _
          obtain ⟨fn, tmps, assign, body, hyl, hR⟩ := YY.out _ _ _ hat.out (JJ.out _ _ _ hj2 hbA)
          have hkA := Lib.hid (hk2.trans (KC.of_below hbA))
          have p0 : (wr.alloc (.cells #[.int .i64 x, .int .i64 y] 39)).cell? ⟨wr.heap.size, 0, none⟩ = some (.int .i64 x) := by rw [World.cell?_alloc_at _ _ _ _ rfl]; rfl
          have p1 : (wr.alloc (.cells #[.int .i64 x, .int .i64 y] 39)).cell? ⟨wr.heap.size, 1, none⟩ = some (.int .i64 y) := by rw [World.cell?_alloc_at _ _ _ _ rfl]; rfl
          simp only [ev] at hyl
          clear hbA hb2 hx0 hy0 hk2 hj2
          gi_wp2_with fail
          refine ⟨(fun h => by simp [Fence.wide] at h), hR.mono ?_⟩
          rintro e W3 (⟨rfl, hJ3, hk3⟩ | ⟨rfl, hJx3⟩)
          · clear hyl hR
            gi_wp2
            go_roundw
            case rel => exact ⟨j + 1, by omega, by go_num, hJ3, hkA.out.trans hk3⟩
            case measure => simp [intOf]; omega
          · clear hyl hR
            gi_wp2
            refine bodyPost_ret (results_none rfl _ _ _) rfl ?_
            exact ⟨⟨_, rfl⟩, .inr hJx3⟩
        · have hjp : J (Mc.pos rs (a + 1)) wr := by
            rw [Mc.pos_next hq.out, hln.out]
            have : j = q := by omega
            rw [← this]; exact hj2
          have JP := Lib.hid hjp
          clear hjp hj2
          gi_wp2
          go_roundw
          case rel => exact ⟨a + 1, by omega, by go_num, JP.out, hk2⟩
          case measure => simp [intOf]; omega
    · have hJn : J ((Mc.pl 0 rs).map ev).length wr := by
        have : a = n := by omega
        subst this
        rw [List.length_map, ← Mc.pos_all rs hn]
        exact hj
      have JN := Lib.hid hJn
      clear hJn hj
      gi_wp2
      go_end0
      exact ⟨⟨_, rfl⟩, .inl JN.out⟩
end Go.Proofs.Ytiohfflkolopeaa
