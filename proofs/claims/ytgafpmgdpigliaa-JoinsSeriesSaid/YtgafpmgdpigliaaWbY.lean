/-
  Several texts in one: Wb0, Wb1. No statement is proved here.
-/
import Derived.Test.YtgafpmgdpigliaaWaZ
import Derived.Test.YtgafpmgdpigliaaSMdZ
import Derived.Test.YtgafpmgdpigliaaSwZ
namespace Go.Proofs.Ytgafpmgdpigliaa
open Go.RowKit
open Mc (Ed Ma Wv)

namespace Mc
/-- The states that are reached, in the order of their words; ascending. -/
def ord (m : Ma) : List Int := (wk m 0).map (·.1)
def asc (m : Ma) : List Int := (ord m).mergeSort fun x y => decide (x ≤ y)
/-- The error of a machine and some of its states. -/
def chkS (m : Ma) (l : List Int) : Int := if chk m ≠ 0 then chk m else if l.all (fun s => decide (0 ≤ s) && decide (s < m.r.length)) then 0 else 1
theorem chkS_nil (m : Ma) : chkS m [] = chk m := by
  unfold chkS
  split
  · rfl
  · rename_i h
    simp at h
    simp [h]
/-- Each number is not greater than the next one. -/
def Adj (l : List Int) : Prop := ∀ k a b, l[k]? = some a → l[k + 1]? = some b → a ≤ b
end Mc
/-- A slice's block begins with these numbers. -/
def BlkC (w : World) (g : Nat) (l : List Int) : Prop := ∃ cur, w.heap[g]? = some (.cells cur 3 (0, 0)) ∧ cur.toList.take l.length = ints l
section
variable {w w' : World} {g : Nat} {l : List Int}
theorem BlkC.rd (h : BlkC w g l) : Rd w (some ⟨g, 0, none⟩) l := fun _ => by
  obtain ⟨cur, h1, h2⟩ := h
  refine ⟨g, 0, rfl, heap_lt h1, fun k hk => ?_⟩
  rw [cell_of_row w g (0 + k) _ 3 (0, 0) h1, Nat.zero_add]
  have h3 : (cur.toList.take l.length)[k]? = (ints l)[k]? := by rw [h2]
  rw [List.getElem?_take_of_lt hk, ints_at hk] at h3
  rw [← Array.getElem?_toList]
  exact h3
theorem BlkC.below (h : BlkC w g l) (hb : Below w.heap.size w w') : BlkC w' g l := by
  obtain ⟨cur, h1, h2⟩ := h
  exact ⟨cur, (hb.block g (heap_lt h1)).trans h1, h2⟩
theorem BlkC.of_own {base n c : Nat} (h : w.ownsRow base 3 1 (.slice (some ⟨g, 0, none⟩) n c) n (ints l)) : BlkC w g l := by
  have hl := h.1
  rw [ints_len, Nat.mul_one] at hl
  rcases h.2 with ⟨e, _⟩ | ⟨g', cap, cur, e, _, hg, _, _, _, ht⟩
  · cases e
  · injection e with e
    injection e with e
    injection e with e
    subst e
    exact ⟨cur, hg, by rw [hl, ← ht, Nat.mul_one]⟩
end

theorem clip_any (A : Option Addr) (n c : Nat) (w : World) (h : n ≤ c) (hA : ∃ a, A = some a) :
    Calls Try.prog 118 #[.slice A n c] w fun e w' => e = .returned (.slice A n n) ∧ w' = w := by
  obtain ⟨a, rfl⟩ := hA
  go_enter Try.func118, Try.ntmps118
  go_wp2
  go_ret
  exact ⟨rfl, rfl⟩

theorem isnan_any (x : Int) (w : World) : Calls Try.prog 115 #[.int .i64 x] w fun e w' => e = .returned (.bool false) ∧ w' = w := by
  go_enter Try.func115, Try.ntmps115
  have h : (x != x) = false := by simp
  go_wp2
  go_ret
  exact ⟨rfl, rfl⟩
set_option maxRecDepth 100000 in
set_option maxHeartbeats 1000000 in
theorem wcheck_any (i o : Int) (rs : List (List Ed)) (A : Option Addr) (n c : Nat) (S : Option Addr) (k d : Nat) (l : List Int) (w : World) (hr : RdR w A rs) (hn : rs.length = n) (hnb : n ≤ 1000000) (hrl : ∀ row ∈ rs, row.length ≤ 1000000) (hS : Rd w S l) (hk : l.length = k) (hkb : k ≤ 1000000) :
    Calls Try.prog 98 #[.agg #[.int .i64 i, .int .i64 o, .slice A n c], .slice S k d] w fun e w' => e = .returned (.int .i64 (Mc.chkS ⟨i, o, rs⟩ l)) ∧ Below w.heap.size w w' := by
  subst hn hk
  have RL := Lib.hid hrl
  clear hrl
  have hb0 : Below w.heap.size w (boxM w i o A rs.length c) := (Below.refl _ _).alloc (Nat.le_refl _) _
  have hr0 := hr.below hb0
  go_enter Try.func98, Try.ntmps98
  go_wp2_with fail
  refine (pcheck_any i o rs A rs.length c _ hr0 rfl hnb RL.out).mono ?_
  rintro e w1 ⟨rfl, hb1⟩
  have hB1 := below_next hb0 hb1
  have hM1 := (BxM.new w i o A rs.length c).mvB hb1
  obtain ⟨q0, q1, q2⟩ := hM1.cells
  have hS1 := hS.below hB1
  clear hb0 hb1 hr0
  by_cases hz : Mc.chk ⟨i, o, rs⟩ = 0
  · have hv : Hid (Mc.chkS ⟨i, o, rs⟩ l = if l.all (fun s => decide (0 ≤ s) && decide (s < rs.length)) then 0 else 1) := by
      show _ = _
      unfold Mc.chkS
      rw [if_neg (by rw [hz]; simp)]
    rw [hz]
    go_wp2
    go_loop [15] (fun v => ∃ j : Nat, j ≤ l.length ∧ v = .int .i64 j ∧ Hid ((l.take j).all (fun s => decide (0 ≤ s) && decide (s < rs.length)) = true)) (fun v => l.length - (intOf v).toNat)
    case atStart => exact ⟨0, Nat.zero_le _, rfl, by simp [Hid]⟩
    case round =>
      obtain ⟨j, hj, rfl, hA⟩ := hrel
      by_cases hlt : j < l.length
      · obtain ⟨b, off, z, rfl, hb, hc, hzz⟩ := hS1.at_ hlt
        have hzl : l[j]? = some z := by
          have := hzz.out
          rw [List.getElem?_eq_getElem hlt] at this ⊢
          exact congrArg some this
        by_cases h0 : z < 0
        · have hf : Hid (Mc.chkS ⟨i, o, rs⟩ l = 1) := by
            show _ = _
            rw [hv.out, Mc.all_hit hzl (by simp; omega)]
            rfl
          clear hzl
          go_wp2
          go_ret
          exact ⟨ret_int hf.out.symm, hB1⟩
        · by_cases h1 : (rs.length : Int) ≤ z
          · have hf : Hid (Mc.chkS ⟨i, o, rs⟩ l = 1) := by
              show _ = _
              rw [hv.out, Mc.all_hit hzl (by simp; omega)]
              rfl
            clear hzl
            go_wp2
            go_ret
            exact ⟨ret_int hf.out.symm, hB1⟩
          · have hgo := Lib.hid (Mc.all_snoc hzl hA.out (by simp; omega))
            clear hzl
            go_wp2
            go_round
            case rel => exact ⟨j + 1, by omega, by go_num, hgo⟩
            case measure => simp [intOf]; omega
      · have hf : Hid (Mc.chkS ⟨i, o, rs⟩ l = 0) := by
          show _ = _
          have := hA.out
          rw [List.take_of_length_le (by omega)] at this
          rw [hv.out, this]
          rfl
        go_wp2
        go_ret
        exact ⟨ret_int hf.out.symm, hB1⟩
  · have hzb : (Mc.chk ⟨i, o, rs⟩ == 0) = false := by rw [beq_eq_false_iff_ne]; exact hz
    have hv : Hid (Mc.chkS ⟨i, o, rs⟩ l = Mc.chk ⟨i, o, rs⟩) := by
      show _ = _
      unfold Mc.chkS
      rw [if_pos hz]
    obtain ⟨z, hzz⟩ : ∃ z, Mc.chk ⟨i, o, rs⟩ = z := ⟨_, rfl⟩
    rw [hzz] at hz hzb hv ⊢
    have HZ := Lib.hid hzz
    clear hzz
    have hzn : (z != 0) = true := by simpa using hz
    go_wp2
    go_ret
    exact ⟨ret_int hv.out.symm, hB1⟩

def SrtP (w : World) (l : List Int) (e : Ending) (w' : World) : Prop := ∃ b, e = .returned (.bool b) ∧ Hid (b = true ↔ Mc.Adj l) ∧ Below w.heap.size w w'
end Go.Proofs.Ytgafpmgdpigliaa

namespace Go.Proofs.Ytgafpmgdpigliaa
open Go.RowKit
open Mc (Ed Ma Wv)
attribute [local go_sem] Oper.semAt_some

theorem own_ch {M base g : Nat} {w w' : World} {e : TypeId} {s n c : Nat} {xs : List Value} (h : w.ownsRow base e s (.slice (some ⟨g, 0, none⟩) n c) n xs) (k : Ch M w w') (hg : g < M) : w'.ownsRow base e s (.slice (some ⟨g, 0, none⟩) n c) n xs := by
  refine ⟨h.1, ?_⟩
  rcases h.2 with h0 | ⟨g', cap, cur, e1, hb, hg1, rest⟩
  · exact .inl h0
  · have e2 := e1
    injection e2 with e2
    injection e2 with e2
    injection e2 with e2
    subst e2
    exact .inr ⟨g, cap, cur, e1, hb, (k.low g hg).trans hg1, rest⟩
theorem own_far {base g b off : Nat} {w : World} {e : TypeId} {s n c : Nat} {xs : List Value} (h : w.ownsRow base e s (.slice (some ⟨g, 0, none⟩) n c) n xs) (hne : g ≠ b) (u : Value) : (w.setCell ⟨b, off, none⟩ u).ownsRow base e s (.slice (some ⟨g, 0, none⟩) n c) n xs := by
  refine ⟨h.1, ?_⟩
  rcases h.2 with h0 | ⟨g', cap, cur, e1, hb, hg1, rest⟩
  · exact .inl h0
  · have e2 := e1
    injection e2 with e2
    injection e2 with e2
    injection e2 with e2
    subst e2
    exact .inr ⟨g, cap, cur, e1, hb, (Below.heap_setCell w ⟨b, off, none⟩ u g hne).trans hg1, rest⟩
theorem Box.grown {w w' : World} {b g : Nat} {v : Value} (h : Box w b v) (k : w.grownBy w' (some g)) (hne : b ≠ g) : Box w' b v :=
  have e := k.block b h.lt (fun e => by injection e with e; exact hne e)
  ⟨(World.cell?_of_block (w := w) (a := ⟨b, 0, none⟩) e).trans h.1, (World.frozen?_of_block (w := w) (a := ⟨b, 0, none⟩) e).trans h.2⟩
theorem KA.grown {D : Nat → Prop} {w w' : World} {g : Nat} (k : w.grownBy w' (some g)) (h : D g) : KA D w w' := ⟨k.size, fun b o hb ho => (k.block b (hlt ho) (fun e => by injection e with e; subst e; exact hb h)).trans ho⟩
theorem below_grown {B : Nat} {a w w' : World} {g : Nat} (h : Below B a w) (k : w.grownBy w' (some g)) (hg : B ≤ g) (hB : B ≤ w.heap.size) : Below B a w' := h.grown k hB (fun j e => by injection e with e; omega)

/-- The first states. -/
def Mc.stL (m : Ma) (k : Nat) : List Int := ((Mc.wk m 0).take k).map (·.1)
theorem Mc.stL_len {m : Ma} {k : Nat} (h : k ≤ (Mc.wk m 0).length) : (Mc.stL m k).length = k := by simp [Mc.stL]; omega
theorem Mc.stL_snoc {m : Ma} {k : Nat} {x : Wv} (h : (Mc.wk m 0)[k]? = some x) : Mc.stL m (k + 1) = Mc.stL m k ++ [x.1] := by
  unfold Mc.stL
  rw [List.take_add_one, h]
  simp
theorem Mc.stL_all (m : Ma) : Mc.stL m (Mc.wk m 0).length = Mc.ord m := by
  unfold Mc.stL Mc.ord
  rw [List.take_length]
/-- The memory of order: the list so far, its box. -/
structure Or (w : World) (gS gB n : Nat) (l : List Int) (W : World) : Prop where
  bel : Below w.heap.size w W
  bs : Box W gB (.slice (some ⟨gS, 0, none⟩) l.length n)
  ow : W.ownsRow w.heap.size 3 1 (.slice (some ⟨gS, 0, none⟩) l.length n) l.length (ints l)
  sB : w.heap.size ≤ gB
  sS : w.heap.size ≤ gS
  ne : gS ≠ gB
theorem Or.ch {w : World} {gS gB n M : Nat} {l : List Int} {W W' : World} (h : Or w gS gB n l W) (k : Ch M W W') (h1 : gB < M) (h2 : gS < M) (hw : w.heap.size ≤ M) : Or w gS gB n l W' :=
  ⟨k.below hw h.bel, h.bs.ch k h1, own_ch h.ow k h2, h.sB, h.sS, h.ne⟩
theorem Or.below {w : World} {gS gB n : Nat} {l : List Int} {W W' : World} (h : Or w gS gB n l W) (k : Below W.heap.size W W') : Or w gS gB n l W' :=
  ⟨below_next h.bel k, h.bs.below k, own_below h.ow k, h.sB, h.sS, h.ne⟩

/-- What order hands back. -/
def OrdP (w : World) (m : Ma) (e : Ending) (w' : World) : Prop := ∃ g q, e = .returned (.slice (some ⟨g, 0, none⟩) q q) ∧ Hid ((Mc.ord m).length = q) ∧ w.heap.size ≤ g ∧ Hid (BlkC w' g (Mc.ord m)) ∧ Below w.heap.size w w'

set_option maxRecDepth 100000 in
set_option maxHeartbeats 4000000 in
theorem worder_any (m : Ma) (A : Option Addr) (c : Nat) (w : World) (V : Mc.Val m) (hr : RdR w A m.r) :
    Calls Try.prog 100 #[.agg #[.int .i64 m.i, .int .i64 m.o, .slice A m.r.length c]] w (OrdP w m) := by
  have hr64 := V.r1
  have hr0 := V.r0
  have HV := Lib.hid V
  obtain ⟨i0, hi0, hz0, hz1, hz2⟩ := info_parts int_info
  obtain ⟨mm, _⟩ : ∃ mm : Nat, True := ⟨3, trivial⟩
  have hM0 := BxM.new w m.i m.o A m.r.length c
  have hb0 : Below w.heap.size w (boxM w m.i m.o A m.r.length c) := (Below.refl _ _).alloc (Nat.le_refl _) _
  obtain ⟨q0, q1, q2⟩ := hM0.cells
  have sz0 : (boxM w m.i m.o A m.r.length c).heap.size = w.heap.size + 1 := by simp
  clear V
  refine (callsIn_wide (n := mm)).1 ?_
  refine callsIn_of_wp_marks Try.func100 rfl trivial ?_
  simp only [Try.ntmps100, List.size_toArray, List.length_cons, List.length_nil, Nat.reduceAdd, Nat.reduceSub, Array.replicate_succ, Array.replicate_zero, List.push_toArray, List.append_toArray, List.nil_append, List.cons_append]
  gi_wp2_with (gi_at_make; go_loud (refine wpListIn_make_own _ rfl _ _ 30 rfl w.heap.size 3 i0 (.int .i64 0) 1 Try.underlying30 hi0 hz0 hz1 .i64 .i64 m.r.length m.r.length rfl rfl rfl (by rw [hz2]; omega) (by unfold maxLen; omega) (by simp) ?_))
  intro w1 hown1 hg1
  have hM1 : BxM w1 w.heap.size m.i m.o A m.r.length c := (hg1.block w.heap.size (by simp) (by simp)).trans hM0
  have hb1 : Below w.heap.size w w1 := hb0.trans ((Below.refl _ _).grown hg1 (by simp) (fun j e => by cases e))
  have sz1 : w.heap.size + 1 ≤ w1.heap.size := by have := hg1.size; simp at this; omega
  clear q0 q1 q2 sz0 hg1 hM0 hb0
  have q0 : ∀ ob, (w1.alloc ob).cell? ⟨w.heap.size, 0, none⟩ = some (.int .i64 m.i) := fun ob => (hM1.mvB ((Below.refl _ _).alloc (Nat.le_refl _) ob)).cells.1
  have q1 : ∀ ob, (w1.alloc ob).cell? ⟨w.heap.size, 1, none⟩ = some (.int .i64 m.o) := fun ob => (hM1.mvB ((Below.refl _ _).alloc (Nat.le_refl _) ob)).cells.2.1
  have q2 : ∀ ob, (w1.alloc ob).cell? ⟨w.heap.size, 2, none⟩ = some (.slice A m.r.length c) := fun ob => (hM1.mvB ((Below.refl _ _).alloc (Nat.le_refl _) ob)).cells.2.2
  gi_wp2_with fail
  refine wide_calls (walk_any _ _ _ _ _ _ _) ?_
  rintro e w2 ⟨rfl, rfl⟩
  gi_wp2_with fail
  obtain ⟨gS, hgS⟩ : ∃ gS, w.heap.size + 1 = gS := ⟨_, rfl⟩
  obtain ⟨gB, hgB⟩ : ∃ gB, w1.heap.size = gB := ⟨_, rfl⟩
  obtain ⟨n, hn⟩ : ∃ n, m.r.length = n := ⟨_, rfl⟩
  have HN := Lib.hid hn
  have hgSl : gS < w1.heap.size := by
    rcases hown1.2 with ⟨e, _⟩ | ⟨g', cap, cur, e, _, hg, _⟩
    · cases e
    · injection e with e
      injection e with e
      injection e with e
      have := heap_lt hg
      omega
  obtain ⟨Wl, hWl⟩ : ∃ Wl, (boxM (w1.alloc (.cells #[.slice (some ⟨gS, 0, none⟩) 0 n] 30)) m.i m.o A n c).alloc (.cells #[.int .i64 0] 3) = Wl := ⟨_, rfl⟩
  rw [hgS] at hown1
  rw [hn] at hown1 hr64 hr0
  rw [hgS, hgB, hn, hWl]
  have hbB : Below w1.heap.size w1 Wl := by rw [← hWl]; exact (((Below.refl _ _).alloc (Nat.le_refl _) _).alloc (by simp) _).alloc (by simp; omega) _
  have hbw : Below w.heap.size w Wl := below_next hb1 hbB
  have hzl : Wl.heap.size = gB + 3 := by rw [← hWl, ← hgB]; simp
  have hbx : BxM Wl (gB + 1) m.i m.o A m.r.length c := by
    rw [← hWl, ← hgB, hn]
    exact (BxM.newE (by simp) m.i m.o A n c).mvB ((Below.refl _ _).alloc (Nat.le_refl _) _)
  have hst : Wl.cell? ⟨gB + 1 + 1, 0, none⟩ = some (.int .i64 ((0 : Nat) : Int)) := by
    rw [← hWl, ← hgB]
    exact (Box.new_ (by simp) (.int .i64 0) 3).1
  have hOr : Or w gS gB n (Mc.stL m 0) Wl := by
    refine ⟨hbw, ?_, ?_, by omega, by omega, by omega⟩
    · rw [← hWl, ← hgB]
      exact ((Box.new w1 (.slice (some ⟨gS, 0, none⟩) 0 n) 30).alloc _).alloc _
    · exact own_below hown1 hbB
  have hG : GivesW (mm - 1) 126 #[.pointer (some ⟨gB + 1 + 1, 0, none⟩), .pointer (some ⟨gB + 1, 0, none⟩)] (Mc.wk m 0) (fun b => b = gS ∨ b = gB) Wl :=
    walk1_gives (mm - 1) m HV.out (gB + 1) (gB + 1 + 1) A c 0 (fun b => b = gS ∨ b = gB) w Wl hr hbw hbx hst (by omega) (fun h => by omega) (fun b h => by omega) (fun b h => by omega)
  have hL : (Mc.wk m 0).length ≤ n := by
    have := (Mc.wk_bf HV.out (s := 0) ⟨by omega, by omega⟩).len HV.out
    rw [hn] at this
    exact this
  clear q0 q1 q2 hM1 hown1 hbB hbx hst hWl hb1 sz1
  refine range_words (m := mm) 126 _ rfl (enters_of Try.func126 (by kernel_rfl) rfl) (Mc.wk m 0) (fun b => b = gS ∨ b = gB) (fun b h => by omega) rfl hG
    (fun k W => Or w gS gB n (Mc.stL m k) W) (fun _ _ => False) (fun k A B h c => h.ch c (by omega) (by omega) (by omega)) (fun c' A B h _ => h.elim) hOr ?round ?done ?stop
  case round =>
    intro l k x X W hk hW hI hO
    obtain ⟨xs, xw⟩ := x
    have hkl := (List.getElem?_eq_some_iff.1 hk).1
    have HK := Lib.hid (Mc.stL_snoc hk)
    have hlen := Mc.stL_len (m := m) (k := k) (by omega)
    obtain ⟨q, hq⟩ : ∃ q, Mc.stL m k = q := ⟨_, rfl⟩
    rw [hq] at hI hlen HK
    have HQ := Lib.hid hlen
    simp only [wvv]
    clear hk hO hG hOr hlen hq
    gi_wp2_with fail
    refine ⟨Below.refl _ _, fun W2 hc2 => ?_⟩
    have hI2 := hI.ch (Ch.of_cells hc2) (by omega) (by omega) (by omega)
    have hszW := hc2.size
    clear hI
    have b0 := hI2.bs.1
    have hbA : Below W2.heap.size W2 (W2.alloc (.cells #[.int .i64 xs] 3)) := (Below.refl _ _).alloc (Nat.le_refl _) _
    have hIA := hI2.below hbA
    have hqn : q.length + 1 ≤ n := by have := HQ.out; omega
    have HKA := Lib.hid (KA.of_below (D := fun b => b = gS ∨ b = gB) hbA)
    clear hbA hc2
    gi_wp2_with (gi_at_builtin; go_loud (refine wpListIn_append_fits _ rfl _ _ 30 rfl w.heap.size 3 i0 1 Try.underlying30 hi0 hz1 gS q.length n (ints q) rfl hIA.ow ⟨W2.heap.size, 0, none⟩ 1 1 [.int .i64 xs] rfl rfl (cell_one_new _ _ _) (by intro u hu; simp at hu; subst hu; rfl) hqn ?_))
    intro w5 hown5 hg5
    have hb5 := hIA.bs.grown hg5 (fun e => hIA.ne e.symm)
    have b5 := hb5.1
    have f5 := hb5.2
    have hI5 : Or w gS gB n (Mc.stL m (k + 1)) (w5.setCell ⟨gB, 0, none⟩ (.slice (some ⟨gS, 0, none⟩) (q.length + 1) n)) := by
      rw [HK.out]
      have hq1 : (q ++ [xs]).length = q.length + 1 := by simp
      refine ⟨(below_grown hIA.bel hg5 hIA.sS hIA.bel.size).setCell (p := ⟨gB, 0, none⟩) hIA.sB _, ?_, ?_, hIA.sB, hIA.sS, hIA.ne⟩
      · rw [hq1]
        exact hb5.set_ _
      · rw [hq1]
        have h1 := own_far hown5 (b := gB) (off := 0) hIA.ne (.slice (some ⟨gS, 0, none⟩) (q.length + 1) n)
        rw [ints_snoc] at h1
        exact h1
    have R : roundP (fun b => b = gS ∨ b = gB) (fun k W => Or w gS gB n (Mc.stL m k) W) (fun _ _ => False) k W2 .normal ⟨#[], []⟩ (w5.setCell ⟨gB, 0, none⟩ (.slice (some ⟨gS, 0, none⟩) (q.length + 1) n)) :=
      ⟨hI5, (HKA.out.trans (KA.grown hg5 (.inl rfl))).trans (KA.set (D := fun b => b = gS ∨ b = gB) _ (.inr rfl) _)⟩
    have RH := Lib.hid R
    clear R hI5 hown5 hg5 hIA hI2 hb5
    gi_wp2_with fail
    exact RH.out
  case done =>
    intro N W hN hI hd
    have hl : Hid ((Mc.ord m).length = (Mc.wk m 0).length) := by show _ = _; simp [Mc.ord]
    have b0 := hI.bs.1
    have hsl := Mc.stL_len (m := m) (k := (Mc.wk m 0).length) (Nat.le_refl _)
    have hB := Lib.hid (BlkC.of_own hI.ow)
    rw [Mc.stL_all] at hB b0 hsl
    obtain ⟨q, hq⟩ : ∃ q, (Mc.ord m).length = q := ⟨_, rfl⟩
    have HQ := Lib.hid hq
    have hqn : q ≤ n := by rw [← hq, hsl]; exact hL
    have hS := hI.sS
    have hbel := Lib.hid hI.bel
    rw [hq] at b0
    clear hsl hq hI hOr hG
    simp only [marked]
    gi_wp2_with fail
    refine wide_calls (clip_any (some ⟨gS, 0, none⟩) q n W hqn ⟨_, rfl⟩) ?_
    rintro e w9 ⟨rfl, rfl⟩
    have hBp : Hid (OrdP w m (.returned (.slice (some ⟨gS, 0, none⟩) q q)) (w9.putObj N (.deferred none))) := by
      have hc : Cells w.heap.size w9 (w9.putObj N (.deferred none)) := Cells.put _ hd rfl (by omega)
      refine ⟨gS, q, rfl, HQ, hS, ?_, hc.below (Nat.le_refl _) hbel.out⟩
      obtain ⟨cur, h1, h2⟩ := hB.out
      exact ⟨cur, hc.same _ _ h1 rfl, h2⟩
    gi_wp2_with fail
    refine ⟨by simp, .inl ⟨_, _, rfl, run_takeDeferred hd, ?_⟩⟩
    refine ⟨.slice (some ⟨gS, 0, none⟩) q q, ?_, hBp.out⟩
    simp [results, Try.f100, go_sem]
  case stop =>
    rintro N c' W hN h hd
    exact h.elim
end Go.Proofs.Ytgafpmgdpigliaa
