/-
  Contracts: slices.Equal on partitions; refines.partitions and what it yields.
-/
import Derived.Test.YtnodnfailjmpeaaRa3
import Derived.Test.YtnodnfailjmpeaaRgp
import Derived.Test.YtnodnfailjmpeaaShelf
import Derived.OwnWalkIn
import Derived.TacticsInMore
import Derived.LoopNIn
namespace Go.Proofs.Ytnodnfailjmpeaa
open Go.RowKit
open Mc (Ed Ma)
attribute [local go_sem] Oper.semAt_some

theorem equal_any (g1 n : Nat) (c d : Nat) (P : Option Addr) (xs ys : List Int) (w : World) (h1 : Rd w (some ⟨g1, 0, none⟩) xs) (h2 : Rd w P ys) (hx : xs.length = n) (hy : ys.length = n) (hn : n ≤ 1000) :
    Calls Try.prog 121 #[.slice (some ⟨g1, 0, none⟩) n c, .slice P n d] w fun e w' => e = .returned (.bool (xs == ys)) ∧ Below w.heap.size w w' := by
  by_cases hz : n = 0
  · subst hz
    refine (Try.slices_Equal_int_empty (some ⟨g1, 0, none⟩) P c 0 d w (by omega)).mono ?_
    rintro e w' ⟨rfl, rfl⟩
    rw [List.eq_nil_of_length_eq_zero hx, List.eq_nil_of_length_eq_zero hy]
    exact ⟨rfl, Below.refl _ _⟩
  · obtain ⟨b1, o1, e1, _, c1⟩ := h1 (by omega)
    obtain ⟨b2, o2, rfl, _, c2⟩ := h2 (by omega)
    injection e1 with e1
    injection e1 with e1 e2
    subst e1 e2
    refine (Try.slices_Equal_int g1 0 n c b2 o2 n d xs ys w (by omega) (by omega) (by omega) (by omega) (fun j hj => by rw [c1 j hj]; simp) (fun j hj => by rw [c2 j hj]; simp)).mono ?_
    rintro e w' ⟨rfl, q, rfl⟩
    rw [List.take_of_length_le (by omega), List.take_of_length_le (by omega)]
    exact ⟨rfl, below_drewN' (Below.refl _ _) q⟩

theorem partitions_any (i o : Int) (A : Option Addr) (n c : Nat) (w : World) :
    Calls Try.prog 96 #[.agg #[.int .i64 i, .int .i64 o, .slice A n c]] w fun e w' => e = .returned (.func (.func 119) #[] #[.pointer (some ⟨w.heap.size, 0, none⟩)]) ∧ w' = boxM w i o A n c := by
  go_enter Try.func96, Try.ntmps96
  go_wp2
  go_ret
  exact ⟨rfl, rfl⟩

theorem wpListIn_make_ints {F : Fence} {m : Nat} (w : World) {ops : Array Oper} {rest : List Oper} {o : Oper} {a : Act} {Q : Exit → Act → World → Prop}
    (hg : o.guard = none) (l c : Operand) (hop : o.op = Op.makeSlice 32 l c) (L : Int) (n : Nat) (hl : a.eval l = .int .i64 L) (hc : a.eval c = .int .i64 L) (hL : L = (n : Int)) (hn : n ≤ 65537)
    (hK : ∀ w', Hid (Blk7 w' w.heap.size (List.replicate n 0)) → Below w.heap.size w w' → wpListIn F m Try.prog ops Q rest (a.put o.dst (.slice (some ⟨w.heap.size, 0, none⟩) n n)) w') :
    wpListIn F m Try.prog ops Q (o :: rest) a w := by
  subst hL
  refine wpListIn_plain hg fun K hK' => ?_
  have hrun := run_make_row' (P := Try.prog) 32 3 (.int .i64 0) 8 Try.underlying32 int_info rfl .i64 .i64 n (by omega) (by omega) w
  unfold Oper.wpIn
  refine ⟨?_, ?_⟩
  · simp [Oper.about, hop]
  · rw [Oper.semAt_plain F _ _ (by rw [hop]; intro c hc'; cases hc')]
    simp [execOp, hop, hl, hc, hrun, Result.andThen]
    refine hK' _ _ (hK _ ?_ ((Below.refl _ _).alloc (Nat.le_refl _) _))
    show _ = _
    rw [heap_alloc_new]
    have e := toList_madeCells_one (.int .i64 0) n
    have e2 : madeCells #[.int .i64 0] n = (ints (List.replicate n 0)).toArray := by
      rw [← Array.toList_inj, e]
      simp [ints]
    rw [e2]

theorem RdP.to {w w' : World} {A : Option Addr} {ps : List (Int × Int)} (h : RdP w A ps) (hs : w.heap.size ≤ w'.heap.size) (hk : ∀ b o v, b < w.heap.size → w.cell? ⟨b, o, none⟩ = some v → w'.cell? ⟨b, o, none⟩ = some v) : RdP w' A ps := fun hp => by
  obtain ⟨b, off, e, hb, hc⟩ := h hp
  exact ⟨b, off, e, by omega, fun k x hx => ⟨hk _ _ _ hb (hc k x hx).1, hk _ _ _ hb (hc k x hx).2⟩⟩
theorem RdR.to {w w' : World} {A : Option Addr} {rs : List (List Ed)} (h : RdR w A rs) (hs : w.heap.size ≤ w'.heap.size) (hk : ∀ b o v, b < w.heap.size → w.cell? ⟨b, o, none⟩ = some v → w'.cell? ⟨b, o, none⟩ = some v) : RdR w' A rs := fun hp => by
  obtain ⟨b, off, e, hb, hc⟩ := h hp
  refine ⟨b, off, e, by omega, fun k row hr => ?_⟩
  obtain ⟨B, c, h1, h2, h3, h4, h5⟩ := hc k row hr
  exact ⟨B, c, hk _ _ _ hb h1, h2, h3, h4, h5.to hs hk⟩

namespace Mc
/-- The partitions by equivalence up to 0, 1 and so on. -/
noncomputable def prts (m : Ma) : List (List Int) := (List.range (lst m + 1)).map (rnd m)
theorem prts_len (m : Ma) : (prts m).length = lst m + 1 := by simp [prts]
theorem prts_at {m : Ma} {k : Nat} (h : k ≤ lst m) : (prts m)[k]? = some (rnd m k) := by simp [prts, Nat.lt_succ_of_le h]
theorem vd_bd {p : List Int} (h : M.Vd p) (hl : p.length ≤ 64) : ∀ z ∈ p, -1 ≤ z ∧ z ≤ 1000 := fun z hz => by
  obtain ⟨k, hk, rfl⟩ := M.mem_gz hz
  have := M.vd_gz h hk
  omega
end Mc

set_option maxRecDepth 100000 in
set_option maxHeartbeats 1600000 in
theorem partitions1_gives (mm c : Nat) (m : Ma) (i o : Int) (A : Option Addr) (n d : Nat) (D : Nat → Prop) (w0 w : World) (v : Mc.Val m) (hi : m.i = i)
    (hr : RdR w0 A m.r) (hn : m.r.length = n) (h0w : Below w0.heap.size w0 w) (hbx : BxM w c i o A n d) (hDc : ¬ D c) (hD0 : ∀ b, D b → w0.heap.size ≤ b) (hDw : ∀ b, D b → b < w.heap.size) :
    GivesP mm 119 #[.pointer (some ⟨c, 0, none⟩)] n (Mc.prts m) D w := by
  intro l J Jx W hW hJ hJx hY hJ0
  have hcl : c < w.heap.size := heap_lt hbx
  have hbW : BxM W c i o A n d := (hW.block _ hcl).trans hbx
  have hs0 : Hid (∀ (wr : World), KC D W wr → ∀ b o v, b < w0.heap.size → w0.cell? ⟨b, o, none⟩ = some v → wr.cell? ⟨b, o, none⟩ = some v) := fun wr hk b o v hb hv =>
    hk.cell (fun h => by have := hD0 b h; omega) ((hW.cell (p := ⟨b, o, none⟩) (by have := h0w.size; show b < _; omega)).trans ((h0w.cell (p := ⟨b, o, none⟩) hb).trans hv))
  have hbk : Hid (∀ wr, KC D W wr → BxM wr c i o A n d) := fun wr hk => hk.2 c _ hDc hbW rfl
  have hsz : w0.heap.size ≤ W.heap.size := Nat.le_trans h0w.size hW.size
  have hsw := hW.size
  have JJ := Lib.hid hJ
  have JX := Lib.hid hJx
  have YY := Lib.hid hY
  have DW := Lib.hid hDw
  have h1n : 1 ≤ m.r.length := v.r0
  have hn64 : n ≤ 64 := by have := v.r1; omega
  obtain ⟨K, hK⟩ : ∃ K, Mc.lst m = K := ⟨_, rfl⟩
  have HK : Hid (Mc.lst m = K) := hK
  have HL : Hid (Mc.Lst m K) := by show Mc.Lst m K; rw [← hK]; exact Mc.lst_lst h1n
  have hKn : K < n := by rw [← hK, ← hn]; exact Mc.lst_lt h1n
  have k2 := hbW.cells.2.2
  clear hJ hJx hY hW hbx hDc hD0 h0w hcl hDw hK hbW
  refine callsIn_of_wp Try.func119 rfl trivial ?_ rfl
  simp only [Try.ntmps119, List.size_toArray, List.length_cons, List.length_nil, Nat.reduceAdd, Nat.reduceSub, Array.replicate_succ, Array.replicate_zero, List.push_toArray, List.append_toArray, List.nil_append, List.cons_append]
  gi_wp2_with (gi_at_make; go_loud (refine wpListIn_make_ints _ rfl _ _ rfl _ n rfl rfl rfl (by omega) ?_))
  intro W1 hB1 hb1
  have hO1 : Hid (OwnL D W1 W.heap.size (Mc.rnd m 0)) := ⟨fun h => by have := DW.out _ h; omega, hB1.out.lt, by rw [Mc.rnd, hn]; exact hB1.out.rd⟩
  have hJ1 := JJ.out _ _ _ hJ0 hb1
  have hk1 := Lib.hid (KC.of_below (D := D) hb1)
  clear hB1 hb1 k2 hJ0
  gi_wp2_with fail
  gi_loopw [3, 4] (fun x y wr => ∃ k g : Nat, k ≤ K ∧ x = .slice (some ⟨g, 0, none⟩) n n ∧ y = .int .i64 k ∧ J k wr ∧ Hid (KC D W wr) ∧ Hid (OwnL D wr g (Mc.rnd m k))) (fun _ y _ => K - (intOf y).toNat)
  case atStart => exact ⟨0, W.heap.size, Nat.zero_le _, rfl, rfl, hJ1, hk1, hO1⟩
  case round =>
    obtain ⟨k, g, hk, rfl, rfl, hj, hkc, hO⟩ := hrel
    clear hJ1 hk1 hO1
    obtain ⟨fn, tmps, assign, body, hyl, hR⟩ := YY.out _ _ g _ (Mc.prts_at (m := m) (k := k) (by rw [HK.out]; exact hk)) hj hO.out
    simp only [wpp] at hyl
    gi_wp2_with fail
    refine ⟨(fun h => by simp [Fence.wide] at h), hR.mono ?_⟩
    rintro e W3 (⟨rfl, hJ3, hk3⟩ | ⟨rfl, hJx3⟩)
    · clear hyl hR
      have hkc3 := hkc.out.trans hk3
      have hO3 := hO.out.keep hk3
      obtain ⟨q0, q1, q2⟩ := BxM.cells (hbk.out W3 hkc3)
      have hr3 : RdR W3 A m.r := hr.to (Nat.le_trans hsz hkc3.1) (hs0.out W3 hkc3)
      have HKC := Lib.hid hkc3
      have HO3 := Lib.hid hO3
      have hrl := Mc.rnd_len m k
      rw [hn] at hrl
      have C1 := refined_any m i o A (some ⟨g, 0, none⟩) n d n (Mc.rnd m k) W3 v hi hr3 hn hO3.2.2 hrl (Mc.vd_bd (Mc.rnd_vd m k) (by omega))
      clear hj hkc hO hk3 hkc3 hO3 hr3
      gi_wp2_with fail
      refine wide_calls C1 ?_
      rintro e W4 ⟨g4, rfl, hg4, hg4', hrd4, hb4⟩
      clear C1 q0 q1 q2
      have hO4 := HO3.out.below hb4
      have hrl2 := Mc.rnd_len m (k + 1)
      rw [hn] at hrl2
      have C2 := equal_any g4 n n n (some ⟨g, 0, none⟩) (Mc.rnd m (k + 1)) (Mc.rnd m k) W4 hrd4 hO4.2.2 hrl2 hrl (by omega)
      have hJ4 := JJ.out _ _ _ hJ3 hb4
      have HKC4 := Lib.hid (HKC.out.trans (KC.of_below hb4))
      have hO4' : Hid (OwnL D W4 g4 (Mc.rnd m (k + 1))) := ⟨fun h => by have := DW.out _ h; have := HKC.out.1; omega, hg4', hrd4⟩
      clear hJ3 hrd4 hb4 HO3 HKC hO4 hrl hrl2 hg4'
      by_cases hkK : k < K
      · have he : (Mc.rnd m (k + 1) == Mc.rnd m k) = false := by rw [beq_eq_false_iff_ne]; exact HL.out.more k hkK
        rw [he] at C2
        gi_wp2_with fail
        refine wide_calls C2 ?_
        rintro e W5 ⟨rfl, hb5⟩
        have hJ5 := JJ.out _ _ _ hJ4 hb5
        have HKC5 := Lib.hid (HKC4.out.trans (KC.of_below hb5))
        have HO5 := Lib.hid (hO4'.out.below hb5)
        clear C2 he hJ4 hb5 HKC4 hO4'
        gi_wp2
        go_roundw
        case rel => exact ⟨k + 1, g4, by omega, rfl, by go_num, hJ5, HKC5, HO5⟩
        case measure => simp [intOf]; omega
      · obtain rfl : k = K := by omega
        have he : (Mc.rnd m (k + 1) == Mc.rnd m k) = true := by rw [beq_iff_eq]; exact HL.out.last
        rw [he] at C2
        gi_wp2_with fail
        refine wide_calls C2 ?_
        rintro e W5 ⟨rfl, hb5⟩
        have hJ5 := JJ.out _ _ _ hJ4 hb5
        have hJn : Hid (J (Mc.prts m).length W5) := by show J _ _; rw [Mc.prts_len, HK.out]; exact hJ5
        clear C2 he hJ4 hb5 hJ5
        gi_wp2
        refine bodyPost_ret (results_none rfl _ _ _) rfl ?_
        exact ⟨⟨_, rfl⟩, .inl hJn.out⟩
    · clear hyl hR
      gi_wp2
      go_end0
      exact ⟨⟨_, rfl⟩, .inr hJx3⟩
end Go.Proofs.Ytnodnfailjmpeaa
