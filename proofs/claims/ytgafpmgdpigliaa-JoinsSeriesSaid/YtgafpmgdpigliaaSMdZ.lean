/-
  Several texts in one: SMd1, SMd2, SMd3, SMd4. No statement is proved here.
-/
import Derived.Test.YtgafpmgdpigliaaRfZ
import Derived.Test.YtgafpmgdpigliaaMcT
namespace Go.Proofs.Ytgafpmgdpigliaa
open Go.RowKit
open Mc (Ed Ma Pe)

/-- The values that are yielded for an edge with its place. -/
def ev (p : Pe) : Array Value := #[.agg #[.int .i64 p.1, .int .i64 p.2.1], .agg #[.int .i64 p.2.2.1, .int .i64 p.2.2.2]]

theorem edges_any (i o : Int) (A : Option Addr) (n c : Nat) (w : World) :
    Calls Try.prog 87 #[.agg #[.int .i64 i, .int .i64 o, .slice A n c]] w fun e w' => e = .returned (.func (.func 101) #[] #[.pointer (some ⟨w.heap.size, 0, none⟩)]) ∧ w' = boxM w i o A n c := by
  go_enter Try.func87, Try.ntmps87
  go_wp2
  go_ret
  exact ⟨rfl, rfl⟩

set_option maxRecDepth 100000 in
set_option maxHeartbeats 1600000 in
theorem edges1_gives (m c : Nat) (i o : Int) (A : Option Addr) (n d : Nat) (rs : List (List Ed)) (D : Nat → Prop) (w0 w : World)
    (hr : RdR w0 A rs) (hn : rs.length = n) (h0w : Below w0.heap.size w0 w) (hbx : BxM w c i o A n d) (_hDc : ¬ D c) (hD0 : ∀ b, D b → w0.heap.size ≤ b) (hnb : n ≤ 1000000) (hrl : ∀ row ∈ rs, row.length ≤ 1000000) :
    Gives m 101 #[.pointer (some ⟨c, 0, none⟩)] ((Mc.pl 0 rs).map ev) D w := by
  intro l J Jx W hW hJ hJx hY hJ0
  have hcl : c < w.heap.size := heap_lt hbx
  have k2 : W.cell? ⟨c, 2, none⟩ = some (.slice A n d) := (hW.cell (p := ⟨c, 2, none⟩) hcl).trans hbx.cells.2.2
  have hs0 : ∀ (wr : World), KC D W wr → ∀ b o v, b < w0.heap.size → w0.cell? ⟨b, o, none⟩ = some v → wr.cell? ⟨b, o, none⟩ = some v := fun wr hk b o v hb hv =>
    hk.cell (fun h => by have := hD0 b h; omega) ((hW.cell (p := ⟨b, o, none⟩) (by have := h0w.size; show b < _; omega)).trans ((h0w.cell (p := ⟨b, o, none⟩) hb).trans hv))
  have JJ := Lib.hid hJ
  have JX := Lib.hid hJx
  have YY := Lib.hid hY
  have SS := Lib.hid hs0
  have RL := Lib.hid hrl
  clear hJ hJx hY hs0 hW hbx hrl _hDc hD0 h0w hcl
  refine callsIn_of_wp Try.func101 rfl trivial ?_ rfl
  simp only [Try.ntmps101, List.size_toArray, List.length_cons, List.length_nil, Nat.reduceAdd, Nat.reduceSub, Array.replicate_succ, Array.replicate_zero, List.push_toArray, List.append_toArray, List.nil_append, List.cons_append]
  gi_wp2
  gi_loopw [10] (fun v wr => ∃ a : Nat, a ≤ n ∧ v = .int .i64 a ∧ J (Mc.pos rs a) wr ∧ KC D W wr) (fun v _ => n - (intOf v).toNat)
  case atStart => exact ⟨0, Nat.zero_le _, rfl, hJ0, ⟨Nat.le_refl _, fun _ _ _ h _ => h⟩⟩
  case round =>
    obtain ⟨a, ha, rfl, hj, hk⟩ := hrel
    clear k2 hJ0
    by_cases hlt : a < n
    · obtain ⟨b, off, B, d', q, row, rfl, hb, hcw, _, _, _, hpw, hln, hq⟩ := hr.at_ (k := a) (by omega)
      have hc := SS.out wr hk b (off + a) _ hb hcw
      have hql : q ≤ 1000000 := by rw [← hln.out]; exact RL.out row (List.mem_of_getElem? hq.out)
      gi_wp2
      gi_loopw [17] (fun v wr => ∃ j : Nat, j ≤ q ∧ v = .int .i64 j ∧ J (Mc.pos rs a + j) wr ∧ KC D W wr) (fun v _ => q - (intOf v).toNat)
      case atStart => exact ⟨0, Nat.zero_le _, rfl, hj, hk⟩
      case round =>
        obtain ⟨j, hjq, rfl, hj2, hk2⟩ := hrel
        clear hj hk hc
        by_cases hjl : j < q
        · obtain ⟨b2, off2, x, y, rfl, hb2, hx0, hy0, hqe⟩ := hpw.at_ (k := j) (by rw [hln.out]; exact hjl)
          have hx := SS.out wr hk2 b2 (off2 + j * 2) _ hb2 hx0
          have hy := SS.out wr hk2 b2 (off2 + j * 2 + 1) _ hb2 hy0
          have hat : Hid (((Mc.pl 0 rs).map ev)[Mc.pos rs a + j]? = some (ev (a, j, (x, y)))) := by
            show _ = _
            rw [List.getElem?_map, Mc.pl_at hq.out hqe.out]; rfl
          have hbA : Below wr.heap.size wr (wr.alloc (.cells #[.int .i64 x, .int .i64 y] 27)) := (Below.refl _ _).alloc (Nat.le_refl _) _
          obtain ⟨fn, tmps, assign, body, hyl, hR⟩ := YY.out _ _ _ hat.out (JJ.out _ _ _ hj2 hbA)
          have hkA := Lib.hid (hk2.trans (KC.of_below hbA))
          have p0 : (wr.alloc (.cells #[.int .i64 x, .int .i64 y] 27)).cell? ⟨wr.heap.size, 0, none⟩ = some (.int .i64 x) := by rw [World.cell?_alloc_at _ _ _ _ rfl]; rfl
          have p1 : (wr.alloc (.cells #[.int .i64 x, .int .i64 y] 27)).cell? ⟨wr.heap.size, 1, none⟩ = some (.int .i64 y) := by rw [World.cell?_alloc_at _ _ _ _ rfl]; rfl
          simp only [ev] at hyl
          clear hbA hb2 hx0 hy0 hk2 hj2
          gi_wp2_with fail
          refine ⟨(fun h => by simp [Fence.wide] at h), hR.mono ?_⟩
          rintro e W3 (⟨rfl, hJ3, hk3⟩ | ⟨rfl, hJx3⟩)
          · clear hyl hR
            gi_wp2
            go_roundw
            case rel => exact ⟨j + 1, by omega, by go_num, hJ3, hkA.out.trans hk3⟩
            case measure => simp [intOf]; omega
          · clear hyl hR
            gi_wp2
            refine bodyPost_ret (results_none rfl _ _ _) rfl ?_
            exact ⟨⟨_, rfl⟩, .inr hJx3⟩
        · have hjp : J (Mc.pos rs (a + 1)) wr := by
            rw [Mc.pos_next hq.out, hln.out]
            have : j = q := by omega
            rw [← this]; exact hj2
          have JP := Lib.hid hjp
          clear hjp hj2
          gi_wp2
          go_roundw
          case rel => exact ⟨a + 1, by omega, by go_num, JP.out, hk2⟩
          case measure => simp [intOf]; omega
    · have hJn : J ((Mc.pl 0 rs).map ev).length wr := by
        have : a = n := by omega
        subst this
        rw [List.length_map, ← Mc.pos_all rs hn]
        exact hj
      have JN := Lib.hid hJn
      clear hJn hj
      gi_wp2
      go_end0
      exact ⟨⟨_, rfl⟩, .inl JN.out⟩
end Go.Proofs.Ytgafpmgdpigliaa

namespace Go.Proofs.Ytgafpmgdpigliaa
open Go.RowKit
open Mc (Ed Ma Pe)

theorem run_eql_edge (a b a' b' : Int) (w : World) : (binOp .eql 27 (.agg #[.int .i64 a, .int .i64 b]) (.agg #[.int .i64 a', .int .i64 b'])).run Try.prog w = .ok (.bool ((a == a') && (b == b'))) w := by
  rw [run_eql_struct, run_equal_edge]; rfl

theorem fits_any (i o : Int) (A : Option Addr) (n c : Nat) (x y : Int) (w : World) :
    Calls Try.prog 90 #[.agg #[.int .i64 i, .int .i64 o, .slice A n c], .agg #[.int .i64 x, .int .i64 y]] w fun e w' => e = .returned (.bool (Mc.okE n o (x, y))) ∧ Below w.heap.size w w' := by
  have p0 : ((w.alloc (.cells #[.int .i64 i, .int .i64 o, .slice A n c] 24)).alloc (.cells #[.int .i64 x, .int .i64 y] 27)).cell? ⟨w.heap.size + 1, 0, none⟩ = some (.int .i64 x) := by rw [World.cell?_alloc_at _ _ _ _ (by simp)]; rfl
  have p1 : ((w.alloc (.cells #[.int .i64 i, .int .i64 o, .slice A n c] 24)).alloc (.cells #[.int .i64 x, .int .i64 y] 27)).cell? ⟨w.heap.size + 1, 1, none⟩ = some (.int .i64 y) := by rw [World.cell?_alloc_at _ _ _ _ (by simp)]; rfl
  have HE := run_eql_edge x y (-1) (-1)
  have hb : Below w.heap.size w ((w.alloc (.cells #[.int .i64 i, .int .i64 o, .slice A n c] 24)).alloc (.cells #[.int .i64 x, .int .i64 y] 27)) := ((Below.refl _ _).alloc (Nat.le_refl _) _).alloc (by simp) _
  by_cases h0 : x = -1 ∧ y = -1
  · obtain ⟨rfl, rfl⟩ := h0
    have hv := Lib.hid (Mc.okE_none (n := n) (o := o) (x := (-1, -1)) rfl rfl)
    go_enter Try.func90, Try.ntmps90
    go_wp2
    go_ret
    exact ⟨ret_bool hv.out.symm, hb⟩
  · have hne : ((x == -1) && (y == -1)) = false := by
      rw [Bool.eq_false_iff]; intro h; simp at h; exact h0 h
    rw [hne] at HE
    by_cases g1 : x < 0
    · have hv := Lib.hid (Mc.okE_out (n := n) (o := o) (x := (x, y)) h0 (.inl g1))
      clear h0 hne
      go_enter Try.func90, Try.ntmps90
      go_wp2
      go_ret
      exact ⟨ret_bool hv.out.symm, hb⟩
    by_cases g2 : (n : Int) ≤ x
    · have hv := Lib.hid (Mc.okE_out (n := n) (o := o) (x := (x, y)) h0 (.inr (.inl g2)))
      clear h0 hne
      go_enter Try.func90, Try.ntmps90
      go_wp2
      go_ret
      exact ⟨ret_bool hv.out.symm, hb⟩
    by_cases g3 : y < 0
    · have hv := Lib.hid (Mc.okE_out (n := n) (o := o) (x := (x, y)) h0 (.inr (.inr (.inl g3))))
      clear h0 hne
      go_enter Try.func90, Try.ntmps90
      go_wp2
      go_ret
      exact ⟨ret_bool hv.out.symm, hb⟩
    have hv : Hid (Mc.okE n o (x, y) = decide (y < o)) := by
      show _ = _
      by_cases g4 : y < o
      · rw [Mc.okE_in (by simp only; omega) (by simp only; omega) (by simp only; omega) (by simp only; omega), decide_eq_true g4]
      · rw [Mc.okE_out h0 (.inr (.inr (.inr (by simp only; omega)))), decide_eq_false g4]
    clear h0 hne
    go_enter Try.func90, Try.ntmps90
    go_wp2
    go_ret
    exact ⟨ret_bool hv.out.symm, hb⟩

theorem BxM.mvC {W W' : World} {g n c B : Nat} {i o : Int} {A : Option Addr} (h : BxM W g i o A n c) (k : Cells B W W') : BxM W' g i o A n c := k.same _ _ h rfl
theorem BxM.mvB {W W' : World} {g n c : Nat} {i o : Int} {A : Option Addr} (h : BxM W g i o A n c) (k : Below W.heap.size W W') : BxM W' g i o A n c := (k.block g (heap_lt h)).trans h
theorem BxM.farS {W : World} {g n c b : Nat} {i o : Int} {A : Option Addr} (h : BxM W g i o A n c) (hne : g ≠ b) {off : Nat} (u : Value) : BxM (W.setCell ⟨b, off, none⟩ u) g i o A n c := (Below.heap_setCell W ⟨b, off, none⟩ u g hne).trans h
theorem BxM.new (w : World) (i o : Int) (A : Option Addr) (n c : Nat) : BxM (boxM w i o A n c) w.heap.size i o A n c := World.alloc_heap_new w _
theorem BxM.newE {w : World} {g : Nat} (e : w.heap.size = g) (i o : Int) (A : Option Addr) (n c : Nat) : BxM (boxM w i o A n c) g i o A n c := e ▸ BxM.new w i o A n c
theorem BxE.new (w : World) (x y : Int) : BxE (w.alloc (.cells #[.int .i64 x, .int .i64 y] 27)) w.heap.size x y := World.alloc_heap_new w _
theorem BxE.mvC {W W' : World} {g B : Nat} {x y : Int} (h : BxE W g x y) (k : Cells B W W') : BxE W' g x y := k.same _ _ h rfl
theorem Below.step_ {B : Nat} {w W W' : World} (h : Below B w W) (hB : B ≤ W.heap.size) (k : Below W.heap.size W W') : Below B w W' := h.trans (k.mono hB)
theorem Cells.of_below' {W W' : World} (h : Below W.heap.size W W') : Cells W.heap.size W W' := Cells.of_below h (Nat.le_refl _)

/-- A machine in a box, a result in another one: how a call of the program lies in memory. -/
structure Fr1 (w : World) (g r : Nat) (i o : Int) (A : Option Addr) (n c : Nat) (v : Value) (W : World) : Prop where
  bel : Below w.heap.size w W
  bm : BxM W g i o A n c
  br : Box W r v
  g0 : w.heap.size ≤ g
  r0 : w.heap.size ≤ r
  ne : g ≠ r
section
variable {w W W' : World} {g r : Nat} {i o : Int} {A : Option Addr} {n c : Nat} {v : Value}
theorem Fr1.cells {B : Nat} (h : Fr1 w g r i o A n c v W) (k : Cells B W W') (hB : w.heap.size ≤ B) : Fr1 w g r i o A n c v W' :=
  ⟨k.below hB h.bel, h.bm.mvC k, h.br.cells k, h.g0, h.r0, h.ne⟩
theorem Fr1.below (h : Fr1 w g r i o A n c v W) (k : Below W.heap.size W W') : Fr1 w g r i o A n c v W' := h.cells (Cells.of_below' k) h.bel.size
theorem Fr1.put (h : Fr1 w g r i o A n c v W) (u : Value) : Fr1 w g r i o A n c u (W.setCell ⟨r, 0, none⟩ u) :=
  ⟨h.bel.setCell (p := ⟨r, 0, none⟩) h.r0 u, h.bm.farS h.ne u, h.br.set_ u, h.g0, h.r0, h.ne⟩
end
theorem marked_defers (a : Act) (N : Nat) : (marked a N).defers = { target := .collected N, args := #[] } :: a.defers := rfl
theorem Fr1.shut {w W : World} {g r : Nat} {i o : Int} {A : Option Addr} {n c : Nat} {v : Value} (h : Fr1 w g r i o A n c v W) {N : Nat} (hN : W.heap[N]? = some (.deferred (some []))) (hw : w.heap.size ≤ N) : Fr1 w g r i o A n c v (W.putObj N (.deferred none)) :=
  h.cells (B := w.heap.size) (Cells.put _ hN rfl hw) (Nat.le_refl _)
end Go.Proofs.Ytgafpmgdpigliaa

namespace Go.Proofs.Ytgafpmgdpigliaa
open Go.RowKit
open Mc (Ed Ma Pe)
attribute [local go_sem] Oper.semAt_some

/-- The edges are checked, one after the other. -/
theorem chk_pl {i o : Int} {rs : List (List Ed)} (h0 : ¬ (16 < i ∨ 16 < o ∨ 64 < rs.length)) (h1 : ¬ (i < 1 ∨ o < 1 ∨ rs.length = 0)) (hl : ∀ row ∈ rs, (row.length : Int) = i) :
    Mc.chk ⟨i, o, rs⟩ = if (Mc.pl 0 rs).all (fun p => Mc.okE rs.length o p.2.2) then 0 else 1 := by
  rw [Mc.chk_in h0 h1, Mc.pl_all]
  simp only
  have : ∀ row ∈ rs, Mc.okR rs.length i o row = row.all (Mc.okE rs.length o) := fun row hrow => by simp [Mc.okR, hl row hrow]
  clear h0 h1 hl
  generalize rs.length = n at this ⊢
  have e : rs.all (Mc.okR n i o) = rs.all fun row => row.all (Mc.okE n o) := by
    induction rs with
    | nil => rfl
    | cons row rs ih =>
      simp only [List.all_cons]
      rw [this row (by simp), ih fun r hr => this r (by simp [hr])]
  rw [e]

set_option maxRecDepth 100000 in
set_option maxHeartbeats 4000000 in
theorem pcheck_any (i o : Int) (rs : List (List Ed)) (A : Option Addr) (n c : Nat) (w : World) (hr : RdR w A rs) (hn : rs.length = n) (hnb : n ≤ 1000000) (hrl : ∀ row ∈ rs, row.length ≤ 1000000) :
    Calls Try.prog 73 #[.agg #[.int .i64 i, .int .i64 o, .slice A n c]] w fun e w' => e = .returned (.int .i64 (Mc.chk ⟨i, o, rs⟩)) ∧ Below w.heap.size w w' := by
  subst hn
  have RL := Lib.hid hrl
  clear hrl
  have EB : ∀ z : Value, Below w.heap.size w ((w.alloc (.cells #[.int .i64 i, .int .i64 o, .slice A rs.length c] 24)).alloc (.cells #[z] 31)) := fun z => ((Below.refl _ _).alloc (Nat.le_refl _) _).alloc (by simp) _
  by_cases h1 : 16 < i
  · have hf : Hid (Mc.chk ⟨i, o, rs⟩ = 3) := Mc.chk_limit (.inl h1)
    go_enter Try.func73, Try.ntmps73
    go_wp2
    go_returns
    exact ⟨ret_int hf.out.symm, EB _⟩
  by_cases h2 : 16 < o
  · have hf : Hid (Mc.chk ⟨i, o, rs⟩ = 3) := Mc.chk_limit (.inr (.inl h2))
    go_enter Try.func73, Try.ntmps73
    go_wp2
    go_returns
    exact ⟨ret_int hf.out.symm, EB _⟩
  by_cases h3 : 64 < (rs.length : Int)
  · have hf : Hid (Mc.chk ⟨i, o, rs⟩ = 3) := Mc.chk_limit (.inr (.inr (by simp only; omega)))
    go_enter Try.func73, Try.ntmps73
    go_wp2
    go_returns
    exact ⟨ret_int hf.out.symm, EB _⟩
  by_cases h4 : i < 1
  · have hf : Hid (Mc.chk ⟨i, o, rs⟩ = 1) := Mc.chk_arg (by simp only; omega) (.inl h4)
    go_enter Try.func73, Try.ntmps73
    go_wp2
    go_returns
    exact ⟨ret_int hf.out.symm, EB _⟩
  by_cases h5 : o < 1
  · have hf : Hid (Mc.chk ⟨i, o, rs⟩ = 1) := Mc.chk_arg (by simp only; omega) (.inr (.inl h5))
    go_enter Try.func73, Try.ntmps73
    go_wp2
    go_returns
    exact ⟨ret_int hf.out.symm, EB _⟩
  by_cases h6 : (rs.length : Int) < 1
  · have hf : Hid (Mc.chk ⟨i, o, rs⟩ = 1) := Mc.chk_arg (by simp only; omega) (.inr (.inr (by simp only; omega)))
    go_enter Try.func73, Try.ntmps73
    go_wp2
    go_returns
    exact ⟨ret_int hf.out.symm, EB _⟩
  have hfz := Lib.hid (chk_pl (i := i) (o := o) (rs := rs) (by omega) (by omega))
  have hbd : Hid (∀ row ∈ rs, (row.length : Int) ≠ i → Mc.chk ⟨i, o, rs⟩ = 1) := fun row hrow hne => by
    rw [Mc.chk_in (by simp only; omega) (by simp only; omega), if_neg]
    simp only [List.all_eq_true]
    intro h
    have := h row hrow
    rw [Mc.okR_len hne] at this
    cases this
  obtain ⟨m, _⟩ : ∃ m : Nat, True := ⟨3, trivial⟩
  refine (callsIn_wide (n := m)).1 ?_
  refine callsIn_of_wp_marks Try.func73 rfl trivial ?_
  simp only [Try.ntmps73, List.size_toArray, List.length_cons, List.length_nil, Nat.reduceAdd, Nat.reduceSub, Array.replicate_succ, Array.replicate_zero, List.push_toArray, List.append_toArray, List.nil_append, List.cons_append]
  gi_wp2
  gi_loopw [38] (fun v wr => ∃ a : Nat, a ≤ rs.length ∧ v = .int .i64 a ∧ Hid (∀ row ∈ rs.take a, (row.length : Int) = i) ∧ Fr1 w w.heap.size (w.heap.size + 1) i o A rs.length c (.int .i64 0) wr ∧ w.heap.size + 2 ≤ wr.heap.size) (fun v _ => rs.length - (intOf v).toNat)
  case atStart => exact ⟨0, Nat.zero_le _, rfl, fun _ h => by simp at h, ⟨EB _, (BxM.new w i o A rs.length c).mvB ((Below.refl _ _).alloc (Nat.le_refl _) _), Box.new_ (by simp) _ _, Nat.le_refl _, by omega, by omega⟩, by simp⟩
  case round =>
    obtain ⟨a, ha, rfl, hk, hF, hsz⟩ := hrel
    obtain ⟨q0, q1, q2⟩ := hF.bm.cells
    have qf := hF.br.2
    have qc := hF.br.1
    by_cases hlt : a < rs.length
    · obtain ⟨b, off, B, d', q, row, rfl, hb, hcw, _, _, _, hpw, hln, hq⟩ := hr.at_ (k := a) (by omega)
      have hc := (hF.bel.cell (p := ⟨b, off + a, none⟩) hb).trans hcw
      by_cases hqi : (q : Int) = i
      · have hqb : ((q : Int) == i) = true := by rw [hqi]; simp
        gi_wp2
        have hk2 : Hid (∀ row ∈ rs.take (a + 1), (row.length : Int) = i) := fun row' h => by
          rw [List.take_add_one, hq.out, List.mem_append] at h
          rcases h with h | h
          · exact hk.out row' h
          · simp at h
            subst h
            rw [hln.out]; exact hqi
        go_roundw
        case rel => exact ⟨a + 1, by omega, by go_num, hk2, hF, hsz⟩
        case measure => simp [intOf]; omega
      · have hqb : ((q : Int) == i) = false := by rw [beq_eq_false_iff_ne]; exact hqi
        have hf := Lib.hid (hbd.out row (List.mem_of_getElem? hq.out) (by rw [hln.out]; exact hqi))
        gi_wp2
        have hF2 := hF.put (.int .i64 1)
        refine ⟨.int .i64 1, ?_, ret_int hf.out.symm, hF2.bel⟩
        simp [results, Try.f73, go_sem, hF2.br.1]
    · have hall := Lib.hid (hfz.out (fun row hrow => hk.out row (by rw [List.take_of_length_le (by omega)]; exact hrow)))
      clear hk hbd hfz q0 q1 q2 qf qc
      obtain ⟨q0, q1, q2⟩ := hF.bm.cells
      gi_wp2_with fail
      refine wide_calls (edges_any _ _ _ _ _ _) ?_
      rintro e w1 ⟨rfl, rfl⟩
      gi_wp2_with fail
      have hbx : Below wr.heap.size wr (boxM wr i o A rs.length c) := (Below.refl _ _).alloc (Nat.le_refl _) _
      have hG := edges1_gives (m - 1) wr.heap.size i o A rs.length c rs (fun b => b = w.heap.size + 1) w (boxM wr i o A rs.length c) hr rfl (below_next hF.bel hbx) (BxM.new wr i o A rs.length c) (by show ¬ _ = _; omega) (fun b h => by show w.heap.size ≤ b; omega) hnb RL.out
      have hF1 := hF.below hbx
      have hs1 : w.heap.size + 3 ≤ (boxM wr i o A rs.length c).heap.size := by simp; omega
      refine range_list (m := m) 101 _ rfl (enters_of Try.func101 (by kernel_rfl) rfl) ((Mc.pl 0 rs).map ev) (fun b => b = w.heap.size + 1) (fun b h => by show b < _; omega) ?hps hG
        (fun k W => Fr1 w w.heap.size (w.heap.size + 1) i o A rs.length c (.int .i64 0) W ∧ Hid (((Mc.pl 0 rs).take k).all (fun p => Mc.okE rs.length o p.2.2) = true))
        (fun c' W => c' = .ret ∧ Fr1 w w.heap.size (w.heap.size + 1) i o A rs.length c (.int .i64 1) W ∧ Hid (Mc.chk ⟨i, o, rs⟩ = 1))
        (fun k A B h c => ⟨h.1.cells c (by omega), h.2⟩) (fun c' A B h c => ⟨h.1, h.2.1.cells c (by omega), h.2.2⟩) ⟨hF1, by simp [Hid]⟩ ?round ?done ?stop
      case hps => intro v hv; obtain ⟨p, _, rfl⟩ := List.mem_map.1 hv; rfl
      case round =>
        intro l k v W hk hW ⟨hI, hA⟩
        rw [List.getElem?_map, Option.map_eq_some_iff] at hk
        obtain ⟨⟨s, j, x, y⟩, hp, rfl⟩ := hk
        have HP := Lib.hid hp
        clear hp
        simp only [ev]
        gi_wp2_with fail
        refine ⟨(Below.refl _ _).alloc (Nat.le_refl _) _, fun W2 hc2 => ?_⟩
        obtain ⟨p0, p1, _, _⟩ := ((BxE.new W x y).mvC hc2).cells
        have hI2 := (hI.below ((Below.refl _ _).alloc (Nat.le_refl _) (.cells #[.int .i64 x, .int .i64 y] 27))).cells hc2 (by omega)
        clear hc2 hI hW
        obtain ⟨q0, q1, q2⟩ := hI2.bm.cells
        have qc := hI2.br.1
        have qf := hI2.br.2
        gi_wp2_with fail
        refine round_calls (l := l) (fits_any _ _ _ _ _ _ _ _) ?_
        rintro e w3 ⟨rfl, hb3⟩
        have hI3 := hI2.below hb3
        clear q0 q1 q2 qc qf
        have qc := hI3.br.1
        have qf := hI3.br.2
        cases hx : Mc.okE rs.length o (x, y) with
        | true =>
          have R : roundP (fun b => b = w.heap.size + 1) (fun k W => Fr1 w w.heap.size (w.heap.size + 1) i o A rs.length c (.int .i64 0) W ∧ Hid (((Mc.pl 0 rs).take k).all (fun p => Mc.okE rs.length o p.2.2) = true)) (fun c' W => c' = .ret ∧ Fr1 w w.heap.size (w.heap.size + 1) i o A rs.length c (.int .i64 1) W ∧ Hid (Mc.chk ⟨i, o, rs⟩ = 1)) k W2 .normal ⟨#[], []⟩ w3 :=
            ⟨⟨hI3, Mc.all_snoc HP.out hA.out hx⟩, KA.of_below hb3⟩
          have RH := Lib.hid R
          clear R
          gi_wp2_with fail
          exact RH.out
        | false =>
          have R : roundP (fun b => b = w.heap.size + 1) (fun k W => Fr1 w w.heap.size (w.heap.size + 1) i o A rs.length c (.int .i64 0) W ∧ Hid (((Mc.pl 0 rs).take k).all (fun p => Mc.okE rs.length o p.2.2) = true)) (fun c' W => c' = .ret ∧ Fr1 w w.heap.size (w.heap.size + 1) i o A rs.length c (.int .i64 1) W ∧ Hid (Mc.chk ⟨i, o, rs⟩ = 1)) k W2 .ret ⟨#[], []⟩ (w3.setCell ⟨w.heap.size + 1, 0, none⟩ (.int .i64 1)) :=
            ⟨⟨rfl, hI3.put _, by show _ = _; rw [hall.out, Mc.all_hit HP.out hx]; rfl⟩, (KA.of_below hb3).trans (KA.one _ _ _)⟩
          have RH := Lib.hid R
          clear R
          gi_wp2_with fail
          exact RH.out
      case done =>
        intro N W hN ⟨hI, hA⟩ hd
        have hf : Hid (Mc.chk ⟨i, o, rs⟩ = 0) := by
          show _ = _
          have := hA.out
          rw [List.length_map, List.take_length] at this
          rw [hall.out, this]; rfl
        have qc := hI.br.1
        have qf := hI.br.2
        have hI2 := hI.put (.int .i64 0)
        have hd2 : (W.setCell ⟨w.heap.size + 1, 0, none⟩ (.int .i64 0)).heap[N]? = some (.deferred (some [])) := (Below.heap_setCell W ⟨w.heap.size + 1, 0, none⟩ _ N (by show N ≠ w.heap.size + 1; omega)).trans hd
        have hI3 := hI2.shut hd2 (by omega)
        simp only [marked]
        gi_wp2_with fail
        refine ⟨by simp, .inl ⟨_, _, rfl, run_takeDeferred hd2, ?_⟩⟩
        refine ⟨.int .i64 0, ?_, ret_int hf.out.symm, hI3.bel⟩
        simp [results, Try.f73, go_sem, hI3.br.1]
      case stop =>
        rintro N c' W hN ⟨rfl, hI, hf⟩ hd
        have hI3 := hI.shut hd (by omega)
        simp only [marked]
        gi_wp2_with fail
        refine ⟨by simp, .inl ⟨_, _, rfl, run_takeDeferred hd, ?_⟩⟩
        refine ⟨.int .i64 1, ?_, ret_int hf.out.symm, hI3.bel⟩
        simp [results, Try.f73, go_sem, hI3.br.1]
end Go.Proofs.Ytgafpmgdpigliaa

namespace Go.Proofs.Ytgafpmgdpigliaa
open Go.RowKit
open Mc (Ed Ma Pe)
attribute [local go_sem] Oper.semAt_some

namespace Mc
theorem pl_ed {m : Ma} (v : Val m) {k : Nat} {p : Pe} (h : (pl 0 m.r)[k]? = some p) : p.2.2.1 = -1 ∨ 0 ≤ p.2.2.1 := by
  obtain ⟨row, h1, h2⟩ := pl_get h
  rcases v.ok row (List.mem_of_getElem? h1) p.2.2 (List.mem_of_getElem? h2) with ⟨a, _⟩ | ⟨a, _⟩
  · exact .inl a
  · exact .inr a
theorem pl_total {m : Ma} (v : Val m) : ((pl 0 m.r).length : Int) = m.r.length * m.i := pl_len m.r 0 v.len
theorem cmp_all {m : Ma} (v : Val m) : cmpV m = (pl 0 m.r).all (fun p => decide (0 ≤ p.2.2.1)) := by
  unfold cmpV
  rw [if_pos (chk_of v), ← pl_total v, ← pl_cnt m.r 0]
  cases h : (pl 0 m.r).all (fun p => decide (0 ≤ p.2.2.1)) with
  | true =>
    rw [beq_iff_eq]
    have := List.countP_eq_length.2 (List.all_eq_true.1 h)
    rw [this]
  | false =>
    rw [beq_eq_false_iff_ne]
    intro e
    have e2 : (pl 0 m.r).countP (fun p => decide (0 ≤ p.2.2.1)) = (pl 0 m.r).length := by omega
    rw [List.all_eq_true.2 (List.countP_eq_length.1 e2)] at h
    cases h
theorem cnt_snoc {l : List Pe} {k : Nat} {p : Pe} (h : l[k]? = some p) : (l.take (k + 1)).countP (fun p => decide (0 ≤ p.2.2.1)) = (l.take k).countP (fun p => decide (0 ≤ p.2.2.1)) + if 0 ≤ p.2.2.1 then 1 else 0 := by
  rw [List.take_add_one, List.countP_append, h]
  by_cases hx : 0 ≤ p.2.2.1 <;> simp [hx]
def Alld (l : List Pe) (k : Nat) : Prop := (l.take k).all (fun p => decide (0 ≤ p.2.2.1)) = true
end Mc

/-- A machine in a box, two results in other ones. -/
structure Fr2 (w : World) (g r s : Nat) (i o : Int) (A : Option Addr) (n c : Nat) (v u : Value) (W : World) : Prop where
  fr : Fr1 w g r i o A n c v W
  bs : Box W s u
  s0 : w.heap.size ≤ s
  ne1 : g ≠ s
  ne2 : r ≠ s
section
variable {w W W' : World} {g r s : Nat} {i o : Int} {A : Option Addr} {n c : Nat} {v u : Value}
theorem Fr2.cells {B : Nat} (h : Fr2 w g r s i o A n c v u W) (k : Cells B W W') (hB : w.heap.size ≤ B) : Fr2 w g r s i o A n c v u W' :=
  ⟨h.fr.cells k hB, h.bs.cells k, h.s0, h.ne1, h.ne2⟩
theorem Fr2.below (h : Fr2 w g r s i o A n c v u W) (k : Below W.heap.size W W') : Fr2 w g r s i o A n c v u W' := h.cells (Cells.of_below' k) h.fr.bel.size
theorem Fr2.put (h : Fr2 w g r s i o A n c v u W) (x : Value) : Fr2 w g r s i o A n c x u (W.setCell ⟨r, 0, none⟩ x) :=
  ⟨h.fr.put x, h.bs.far h.ne2.symm x, h.s0, h.ne1, h.ne2⟩
theorem Fr2.put2 (h : Fr2 w g r s i o A n c v u W) (x : Value) : Fr2 w g r s i o A n c v x (W.setCell ⟨s, 0, none⟩ x) :=
  ⟨⟨h.fr.bel.setCell (p := ⟨s, 0, none⟩) h.s0 x, h.fr.bm.farS h.ne1 x, h.fr.br.far h.ne2 x, h.fr.g0, h.fr.r0, h.fr.ne⟩, h.bs.set_ x, h.s0, h.ne1, h.ne2⟩
theorem Fr2.shut (h : Fr2 w g r s i o A n c v u W) {N : Nat} (hN : W.heap[N]? = some (.deferred (some []))) (hw : w.heap.size ≤ N) : Fr2 w g r s i o A n c v u (W.putObj N (.deferred none)) :=
  h.cells (B := w.heap.size) (Cells.put _ hN rfl hw) (Nat.le_refl _)
end
theorem far_deferred {W : World} {N r : Nat} (hd : W.heap[N]? = some (.deferred (some []))) {v : Value} (hb : Box W r v) (u : Value) : (W.setCell ⟨r, 0, none⟩ u).heap[N]? = some (.deferred (some [])) := by
  refine (Below.heap_setCell W ⟨r, 0, none⟩ u N ?_).trans hd
  rintro rfl
  obtain ⟨x, hx, hc⟩ := cell_block hb.1
  rw [hd] at hx
  cases hx
  cases hc

end Go.Proofs.Ytgafpmgdpigliaa
