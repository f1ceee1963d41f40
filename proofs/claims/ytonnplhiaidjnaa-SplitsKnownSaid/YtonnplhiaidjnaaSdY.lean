/-
  Several texts in one: SMd7, SMd8, SMd9, SMd10. No statement is proved here.
-/
import Derived.Test.YtonnplhiaidjnaaSMdZ
import Derived.Test.YtonnplhiaidjnaaScB
namespace Go.Proofs.Ytonnplhiaidjnaa
open Go.RowKit
open Mc (Ed Ma Pe)

namespace Mc
/-- The error of a machine and one of its states. -/
def cst (m : Ma) (s : Int) : Int := if chk m ≠ 0 then chk m else if 0 ≤ s ∧ s < m.r.length then 0 else 1
theorem stE_cst (m : Ma) (s i : Int) : stE m s i = if cst m s ≠ 0 then cst m s else if 0 ≤ i ∧ i < m.i then 0 else 1 := by
  unfold stE cst
  split
  · simp [*]
  · split <;> simp
theorem runE_cst (m : Ma) (s : Int) (w : List Int) : runE m s w = if cst m s ≠ 0 then cst m s else M.check w m.i := by
  unfold runE cst
  split
  · simp [*]
  · split <;> simp
theorem cst_val {m : Ma} {s : Int} (h : cst m s = 0) : Val m ∧ 0 ≤ s ∧ s < m.r.length := by
  unfold cst at h
  split at h
  · rename_i h1; exact absurd h h1
  · rename_i h1
    split at h
    · rename_i h2; exact ⟨val_of (by simpa using h1), h2⟩
    · cases h
end Mc

set_option maxHeartbeats 1000000 in
theorem checkState_any (i o s : Int) (rs : List (List Ed)) (A : Option Addr) (n c : Nat) (w : World) (hr : RdR w A rs) (hn : rs.length = n) (hnb : n ≤ 1000000) (hrl : ∀ row ∈ rs, row.length ≤ 1000000) :
    Calls Try.prog 88 #[.agg #[.int .i64 i, .int .i64 o, .slice A n c], .int .i64 s] w fun e w' => e = .returned (.int .i64 (Mc.cst ⟨i, o, rs⟩ s)) ∧ Below w.heap.size w w' := by
  subst hn
  have RL := Lib.hid hrl
  clear hrl
  have hb0 : Below w.heap.size w (boxM w i o A rs.length c) := (Below.refl _ _).alloc (Nat.le_refl _) _
  have hr0 := hr.below hb0
  go_enter Try.func88, Try.ntmps88
  go_wp2_with fail
  refine (pcheck_any i o rs A rs.length c _ hr0 rfl hnb RL.out).mono ?_
  rintro e w1 ⟨rfl, hb1⟩
  have hB1 := below_next hb0 hb1
  obtain ⟨q0, q1, q2⟩ := ((BxM.new w i o A rs.length c).mvB hb1).cells
  clear hb0 hb1
  by_cases hz : Mc.chk ⟨i, o, rs⟩ = 0
  · rw [hz]
    by_cases h1 : s < 0
    · have hv : Hid (Mc.cst ⟨i, o, rs⟩ s = 1) := by show _ = _; unfold Mc.cst; rw [if_neg (by simp [hz]), if_neg (by omega)]
      go_wp2
      go_ret
      exact ⟨ret_int hv.out.symm, hB1⟩
    · by_cases h2 : (rs.length : Int) ≤ s
      · have hv : Hid (Mc.cst ⟨i, o, rs⟩ s = 1) := by show _ = _; unfold Mc.cst; rw [if_neg (by simp [hz]), if_neg (by simp only; omega)]
        go_wp2
        go_ret
        exact ⟨ret_int hv.out.symm, hB1⟩
      · have hv : Hid (Mc.cst ⟨i, o, rs⟩ s = 0) := by show _ = _; unfold Mc.cst; rw [if_neg (by simp [hz]), if_pos (by simp only; omega)]
        go_wp2
        go_ret
        exact ⟨ret_int hv.out.symm, hB1⟩
  · have hzb : (Mc.chk ⟨i, o, rs⟩ == 0) = false := by rw [beq_eq_false_iff_ne]; exact hz
    have hv : Hid (Mc.cst ⟨i, o, rs⟩ s = Mc.chk ⟨i, o, rs⟩) := by show _ = _; unfold Mc.cst; rw [if_pos hz]
    obtain ⟨z, hzz⟩ : ∃ z, Mc.chk ⟨i, o, rs⟩ = z := ⟨_, rfl⟩
    rw [hzz] at hz hzb ⊢
    have HZ := Lib.hid hzz
    clear hzz
    go_wp2
    go_ret
    exact ⟨ret_int (by rw [hv.out, HZ.out]), hB1⟩

set_option maxHeartbeats 1000000 in
theorem checkWord_any (i o s : Int) (rs : List (List Ed)) (ws : List Int) (A W : Option Addr) (n c k d : Nat) (w : World) (hr : RdR w A rs) (hw : Rd w W ws) (hn : rs.length = n) (hnb : n ≤ 1000000) (hrl : ∀ row ∈ rs, row.length ≤ 1000000) (hk : ws.length = k) (hkb : k ≤ 1000000) :
    Calls Try.prog 86 #[.agg #[.int .i64 i, .int .i64 o, .slice A n c], .int .i64 s, .slice W k d] w fun e w' => e = .returned (.int .i64 (Mc.runE ⟨i, o, rs⟩ s ws)) ∧ Below w.heap.size w w' := by
  subst hn hk
  have RL := Lib.hid hrl
  clear hrl
  have hb0 : Below w.heap.size w (boxM w i o A rs.length c) := (Below.refl _ _).alloc (Nat.le_refl _) _
  have hr0 := hr.below hb0
  go_enter Try.func86, Try.ntmps86
  go_wp2_with fail
  refine (checkState_any i o s rs A rs.length c _ hr0 rfl hnb RL.out).mono ?_
  rintro e w1 ⟨rfl, hb1⟩
  have hB1 := below_next hb0 hb1
  obtain ⟨q0, q1, q2⟩ := ((BxM.new w i o A rs.length c).mvB hb1).cells
  have hw1 := hw.below hB1
  clear hb0 hb1
  by_cases hz : Mc.cst ⟨i, o, rs⟩ s = 0
  · rw [hz]
    have hv : Hid (Mc.runE ⟨i, o, rs⟩ s ws = M.check ws i) := by show _ = _; rw [Mc.runE_cst, if_neg (by simp [hz])]
    clear hz
    go_wp2_with fail
    refine (check_any _ _ _ _ _ hw1).mono ?_
    rintro e w2 ⟨rfl, hb2⟩
    go_wp2
    go_ret
    exact ⟨ret_int hv.out.symm, below_next hB1 hb2⟩
  · have hzb : (Mc.cst ⟨i, o, rs⟩ s == 0) = false := by rw [beq_eq_false_iff_ne]; exact hz
    have hv : Hid (Mc.runE ⟨i, o, rs⟩ s ws = Mc.cst ⟨i, o, rs⟩ s) := by show _ = _; rw [Mc.runE_cst, if_pos hz]
    obtain ⟨z, hzz⟩ : ∃ z, Mc.cst ⟨i, o, rs⟩ s = z := ⟨_, rfl⟩
    rw [hzz] at hz hzb ⊢
    have HZ := Lib.hid hzz
    clear hzz
    go_wp2
    go_ret
    exact ⟨ret_int (by rw [hv.out, HZ.out]), hB1⟩

end Go.Proofs.Ytonnplhiaidjnaa

namespace Go.Proofs.Ytonnplhiaidjnaa
open Go.RowKit
open Mc (Ed Ma Pe)

namespace Mc
/-- The state before the symbol k of a word, and the edge that is taken there. -/
def stt (m : Ma) (s : Int) (ws : List Int) (k : Nat) : Int := aft m s (ws.take k)
def tke (m : Ma) (s : Int) (ws : List Int) (k : Nat) : Ed := nx m (stt m s ws k) ((ws[k]?).getD 0)
theorem stt_zero (m : Ma) (s : Int) (ws : List Int) : stt m s ws 0 = s := rfl
theorem stt_next {m : Ma} {s : Int} {ws : List Int} {k : Nat} (h : k < ws.length) : stt m s ws (k + 1) = (tke m s ws k).1 := by
  unfold stt tke stt
  rw [List.take_add_one, List.getElem?_eq_getElem h, aft_app]
  rfl
theorem stt_all (m : Ma) (s : Int) (ws : List Int) {n : Nat} (h : ws.length ≤ n) : stt m s ws n = aft m s ws := by
  unfold stt; rw [List.take_of_length_le h]
theorem stt_st {m : Ma} (v : Val m) {s : Int} {ws : List Int} (hs : St m s) (hw : Wd m ws) (k : Nat) : St m (stt m s ws k) :=
  aft_st v _ _ hs fun c hc => hw c (List.mem_of_mem_take hc)
theorem run_take {m : Ma} {s : Int} {ws : List Int} {k : Nat} (h : k < ws.length) : run m s (ws.take (k + 1)) = run m s (ws.take k) ++ [(tke m s ws k).2] := by
  rw [List.take_add_one, List.getElem?_eq_getElem h, run_app]
  show _ ++ run m _ [_] = _
  simp [run, tke, stt, List.getElem?_eq_getElem h]
end Mc
/-- The values that are yielded for a symbol. -/
def tv (m : Ma) (s : Int) (ws : List Int) (k : Nat) : Array Value := #[.int .i64 k, .agg #[.int .i64 (Mc.tke m s ws k).1, .int .i64 (Mc.tke m s ws k).2]]

theorem taken_any (i o s : Int) (A W : Option Addr) (n c k d : Nat) (w : World) :
    Calls Try.prog 87 #[.agg #[.int .i64 i, .int .i64 o, .slice A n c], .int .i64 s, .slice W k d] w fun e w' => e = .returned (.func (.func 90) #[] #[.pointer (some ⟨w.heap.size + 1, 0, none⟩), .pointer (some ⟨w.heap.size + 1 + 1, 0, none⟩), .pointer (some ⟨w.heap.size, 0, none⟩)]) ∧
      w' = ((boxM w i o A n c).alloc (.cells #[.int .i64 s] 3)).alloc (.cells #[.slice W k d] 29) := by
  go_enter Try.func87, Try.ntmps87
  go_wp2
  go_ret
  exact ⟨rfl, rfl⟩

set_option maxRecDepth 100000 in
set_option maxHeartbeats 1600000 in
theorem taken1_gives (mm c cs cw : Nat) (m : Ma) (s : Int) (ws : List Int) (A B : Option Addr) (n d k e : Nat) (D : Nat → Prop) (w0 w : World) (V : Mc.Val m) (hs : Mc.St m s) (hwd : Mc.Wd m ws)
    (hr : RdR w0 A m.r) (hw : Rd w0 B ws) (hn : m.r.length = n) (hk : ws.length = k) (hkb : k ≤ 1000000) (h0w : Below w0.heap.size w0 w) (hbx : BxM w c m.i m.o A n d) (hcs : w.cell? ⟨cs, 0, none⟩ = some (.int .i64 s)) (hcw : w.cell? ⟨cw, 0, none⟩ = some (.slice B k e))
    (hDc : ¬ D c) (hD0 : ∀ b, D b → w0.heap.size ≤ b) (hDl : ∀ b, D b → b < w.heap.size) :
    Gives mm 90 #[.pointer (some ⟨cs, 0, none⟩), .pointer (some ⟨cw, 0, none⟩), .pointer (some ⟨c, 0, none⟩)] ((List.range k).map (tv m s ws)) D w := by
  intro l J Jx W hW hJ hJx hY hJ0
  subst hn hk
  have hcl : c < w.heap.size := heap_lt hbx
  have hlt' : ∀ {b o v}, w.cell? ⟨b, o, none⟩ = some v → W.cell? ⟨b, o, none⟩ = some v := fun h => by
    obtain ⟨x, hx, _⟩ := cell_block h
    exact (hW.cell (p := ⟨_, _, none⟩) (hlt hx)).trans h
  have k2 : W.cell? ⟨c, 2, none⟩ = some (.slice A m.r.length d) := hlt' hbx.cells.2.2
  have k3 := hlt' hcs
  have k4 := hlt' hcw
  have hs0 : ∀ (wr : World), KC D W wr → ∀ b o v, b < w0.heap.size → w0.cell? ⟨b, o, none⟩ = some v → wr.cell? ⟨b, o, none⟩ = some v := fun wr hk b o v hb hv =>
    hk.cell (fun h => by have := hD0 b h; omega) ((hW.cell (p := ⟨b, o, none⟩) (by have := h0w.size; show b < _; omega)).trans ((h0w.cell (p := ⟨b, o, none⟩) hb).trans hv))
  have hrow : ∀ (wr : World), KC D W wr → wr.cell? ⟨c, 2, none⟩ = some (.slice A m.r.length d) := fun wr hk => hk.cell hDc k2
  have hnw : ∀ (wr : World), W.heap.size ≤ wr.heap.size → ¬ D wr.heap.size := fun wr h hd => by have := hDl _ hd; have := hW.size; omega
  have JJ := Lib.hid hJ
  have JX := Lib.hid hJx
  have YY := Lib.hid hY
  have SS := Lib.hid hs0
  have RR := Lib.hid hrow
  have NN := Lib.hid hnw
  have HS := Lib.hid (fun k => Mc.stt_st V (ws := ws) hs hwd k)
  have WD := Lib.hid hwd
  have LN := Lib.hid V.len
  clear hJ hJx hY hs0 hrow hnw hW hbx hDc hD0 hDl h0w hcl k2 hcs hcw hlt' hs hwd V
  refine callsIn_of_wp Try.func90 rfl trivial ?_ rfl
  simp only [Try.ntmps90, List.size_toArray, List.length_cons, List.length_nil, Nat.reduceAdd, Nat.reduceSub, Array.replicate_succ, Array.replicate_zero, List.push_toArray, List.append_toArray, List.nil_append, List.cons_append]
  gi_wp2
  gi_loopw [5, 12] (fun a v wr => ∃ q : Nat, q ≤ ws.length ∧ v = .int .i64 q ∧ a = .int .i64 (Mc.stt m s ws q) ∧ J q wr ∧ KC D W wr) (fun _ v _ => ws.length - (intOf v).toNat)
  case atStart => exact ⟨0, Nat.zero_le _, rfl, rfl, hJ0, ⟨Nat.le_refl _, fun _ _ _ h _ => h⟩⟩
  case round =>
    obtain ⟨q, hq, rfl, rfl, hj, hkc⟩ := hrel
    clear k3 k4 hJ0
    by_cases hlt2 : q < ws.length
    · obtain ⟨bw, offw, z, rfl, hbw, hcz0, hz⟩ := hw.at_ hlt2
      have hcz := SS.out wr hkc _ _ _ hbw hcz0
      have hzq : ws[q]? = some z := by have := hz.out; rw [List.getElem?_eq_getElem hlt2] at this ⊢; simpa using this
      have hzb := WD.out z (List.mem_of_getElem? hzq)
      have hsz := hkc.1
      have hat : Hid (((List.range ws.length).map (tv m s ws))[q]? = some (tv m s ws q)) := by
        show _ = _
        rw [List.getElem?_map, List.getElem?_range hlt2]; rfl
      have hnx := Lib.hid (Mc.stt_next (m := m) (s := s) hlt2)
      have htk : Hid (Mc.tke m s ws q = Mc.nx m (Mc.stt m s ws q) z) := by show _ = _; unfold Mc.tke; rw [hz.out]
      have hst := HS.out q
      obtain ⟨st, hste⟩ : ∃ st, Mc.stt m s ws q = st := ⟨_, rfl⟩
      rw [hste] at hst htk ⊢
      obtain ⟨⟨x, y⟩, hxy⟩ : ∃ x, Mc.nx m st z = x := ⟨_, rfl⟩
      rw [hxy] at htk
      clear hste hcz0 hz
      have hq0 := RR.out wr hkc
      have hbA : Below wr.heap.size wr (wr.alloc (.cells #[.int .i64 x, .int .i64 y] 58)) := (Below.refl _ _).alloc (Nat.le_refl _) _
      obtain ⟨fn, tmps, assign, body, hyl, hR⟩ := YY.out _ _ _ hat.out (JJ.out _ _ _ hj hbA)
      have hkA := Lib.hid (hkc.trans (KC.of_below hbA))
      have hnd := NN.out wr hsz
      have p0 : (wr.alloc (.cells #[.int .i64 x, .int .i64 y] 58)).cell? ⟨wr.heap.size, 0, none⟩ = some (.int .i64 x) := by rw [World.cell?_alloc_at _ _ _ _ rfl]; rfl
      have p1 : (wr.alloc (.cells #[.int .i64 x, .int .i64 y] 58)).cell? ⟨wr.heap.size, 1, none⟩ = some (.int .i64 y) := by rw [World.cell?_alloc_at _ _ _ _ rfl]; rfl
      simp only [tv, htk.out] at hyl
      have PP := Lib.hid p0
      rcases hst with rfl | ⟨h1, h2⟩
      · have hxy2 : (x, y) = ((-1, -1) : Int × Int) := by rw [← hxy]; exact Mc.nx_neg (by omega)
        injection hxy2 with e1 e2
        subst e1 e2
        clear hbA hkc hj hq0 hxy
        gi_wp2_with fail
        refine ⟨(fun h => by simp [Fence.wide] at h), hR.mono ?_⟩
        rintro e W3 (⟨rfl, hJ3, hk3⟩ | ⟨rfl, hJx3⟩)
        · have r0 := hk3.cell hnd PP.out
          clear hyl hR p0 p1
          gi_wp2
          go_roundw
          case rel => exact ⟨q + 1, by omega, by go_num, by rw [hnx.out, htk.out], hJ3, hkA.out.trans hk3⟩
          case measure => simp [intOf]; omega
        · clear hyl hR p0 p1
          gi_wp2
          refine bodyPost_ret (results_none rfl _ _ _) rfl ?_
          exact ⟨⟨_, rfl⟩, .inr hJx3⟩
      · obtain ⟨st, rfl⟩ := Int.eq_ofNat_of_zero_le h1
        obtain ⟨z, rfl⟩ := Int.eq_ofNat_of_zero_le hzb.1
        have hl : st < m.r.length := by omega
        obtain ⟨b, off, C, dd, qn, row, rfl, hb, hcw2, _, _, _, hp, hln, hqr⟩ := hr.at_ hl
        have hrl := LN.out row (List.mem_of_getElem? hqr.out)
        have hkl : z < row.length := by omega
        obtain ⟨b2, off2, x', y', rfl, hb2, hx0, hy0, hqe⟩ := hp.at_ hkl
        have hxe : ((x', y') : Ed) = (x, y) := by rw [← hxy]; exact (Mc.nx_at hqr.out hqe.out).symm
        injection hxe with e1 e2
        subst e1 e2
        have hc1 := SS.out wr hkc _ _ _ hb hcw2
        have hx := SS.out wr hkc _ _ _ hb2 hx0
        have hy := SS.out wr hkc _ _ _ hb2 hy0
        have hkq : z < qn := by rw [← hln.out]; exact hkl
        have hsn : ((st : Int) == -1) = false := by rw [beq_eq_false_iff_ne]; omega
        have cB := Cells.of_below' (show Below wr.heap.size wr (wr.alloc (.cells #[.int .i64 (-1), .int .i64 (-1)] 58)) from (Below.refl _ _).alloc (Nat.le_refl _) _)
        have a0 := cB.cell hq0
        have a1 := cB.cell hc1
        have a2 := cB.cell hx
        have a3 := cB.cell hy
        clear hbA hkc hj hxy hcw2 hx0 hy0 hrl hkl hl h1 hzb hzq cB
        gi_wp2_with fail
        refine ⟨(fun h => by simp [Fence.wide] at h), hR.mono ?_⟩
        rintro e W3 (⟨rfl, hJ3, hk3⟩ | ⟨rfl, hJx3⟩)
        · have r0 := hk3.cell hnd PP.out
          clear hyl hR p0 p1 hq0 hc1 hx hy a0 a1 a2 a3
          gi_wp2
          go_roundw
          case rel => exact ⟨q + 1, by omega, by go_num, by rw [hnx.out, htk.out], hJ3, hkA.out.trans hk3⟩
          case measure => simp [intOf]; omega
        · clear hyl hR p0 p1
          gi_wp2
          refine bodyPost_ret (results_none rfl _ _ _) rfl ?_
          exact ⟨⟨_, rfl⟩, .inr hJx3⟩
    · have hJn : J ((List.range ws.length).map (tv m s ws)).length wr := by
        rw [List.length_map, List.length_range, show ws.length = q by omega]; exact hj
      have JN := Lib.hid hJn
      clear hJn hj
      gi_wp2
      go_end0
      exact ⟨⟨_, rfl⟩, .inl JN.out⟩
end Go.Proofs.Ytonnplhiaidjnaa

namespace Go.Proofs.Ytonnplhiaidjnaa
open Go.RowKit
open Mc (Ed Ma Pe)
attribute [local go_sem] Oper.semAt_some

/-- Block g is known whole: the ints cs. -/
def BlkR (w : World) (g : Nat) (cs : List Int) : Prop := w.heap[g]? = some (.cells (ints cs).toArray 3 (0, 0))
section
variable {w w' : World} {g : Nat} {cs : List Int}
theorem BlkR.lt (h : BlkR w g cs) : g < w.heap.size := hlt h
theorem BlkR.at_ (h : BlkR w g cs) {k : Nat} (hk : k < cs.length) : w.cell? ⟨g, k, none⟩ = some (.int .i64 (cs[k]?.getD 0)) ∧ w.frozen? ⟨g, k, none⟩ = false := by
  constructor
  · rw [cell_of_row w g k _ 3 (0, 0) h]
    simpa using ints_at hk
  · unfold BlkR at h
    simp [World.frozen?, h]
theorem BlkR.set_ (h : BlkR w g cs) (k : Nat) (v : Int) : BlkR (w.setCell ⟨g, k, none⟩ (.int .i64 v)) g (cs.set k v) := by
  unfold BlkR at h ⊢
  simp [World.setCell, Array.getElem?_modify, h, ints, List.map_set]
theorem BlkR.mvC {B : Nat} (h : BlkR w g cs) (k : Cells B w w') : BlkR w' g cs := k.same _ _ h rfl
theorem BlkR.rd (h : BlkR w g cs) : Rd w (some ⟨g, 0, none⟩) cs := Rd.of_block h
end

theorem wpListIn_make_intsR {F : Fence} {m : Nat} (w : World) {ops : Array Oper} {rest : List Oper} {o : Oper} {a : Act} {Q : Exit → Act → World → Prop}
    (hg : o.guard = none) (l c : Operand) (hop : o.op = Op.makeSlice 29 l c) (L : Int) (n : Nat) (hl : a.eval l = .int .i64 L) (hc : a.eval c = .int .i64 L) (hL : L = (n : Int)) (hn : n ≤ 65537)
    (hK : ∀ w', BlkR w' w.heap.size (List.replicate n 0) → Below w.heap.size w w' → wpListIn F m Try.prog ops Q rest (a.put o.dst (.slice (some ⟨w.heap.size, 0, none⟩) n n)) w') :
    wpListIn F m Try.prog ops Q (o :: rest) a w := by
  subst hL
  refine wpListIn_plain hg fun K hK' => ?_
  have hrun := run_make_row' (P := Try.prog) 29 3 (.int .i64 0) 8 Try.underlying29 int_info rfl .i64 .i64 n (by omega) (by omega) w
  unfold Oper.wpIn
  refine ⟨?_, ?_⟩
  · simp [Oper.about, hop]
  · rw [Oper.semAt_plain F _ _ (by rw [hop]; intro c hc'; cases hc')]
    simp [execOp, hop, hl, hc, hrun, Result.andThen]
    refine hK' _ _ (hK _ ?_ ((Below.refl _ _).alloc (Nat.le_refl _) _))
    show _ = _
    rw [heap_alloc_new]
    have e := toList_madeCells_one (.int .i64 0) n
    have e2 : madeCells #[.int .i64 0] n = (ints (List.replicate n 0)).toArray := by
      rw [← Array.toList_inj, e]
      simp [ints]
    rw [e2]

/-- The boxes that taken lays. -/
abbrev takenW (w : World) (i o s : Int) (A W : Option Addr) (n c k d : Nat) : World := ((boxM w i o A n c).alloc (.cells #[.int .i64 s] 3)).alloc (.cells #[.slice W k d] 29)
theorem taken_lies (w : World) (i o s : Int) (A W : Option Addr) (n c k d : Nat) : Below w.heap.size w (takenW w i o s A W n c k d) ∧ BxM (takenW w i o s A W n c k d) w.heap.size i o A n c ∧
    (takenW w i o s A W n c k d).cell? ⟨w.heap.size + 1, 0, none⟩ = some (.int .i64 s) ∧ (takenW w i o s A W n c k d).cell? ⟨w.heap.size + 1 + 1, 0, none⟩ = some (.slice W k d) ∧ (takenW w i o s A W n c k d).heap.size = w.heap.size + 3 := by
  refine ⟨((((Below.refl _ _).alloc (Nat.le_refl _) _).alloc (by simp) _).alloc (by simp; omega) _), ((BxM.new w i o A n c).mvB ((Below.refl _ _).alloc (Nat.le_refl _) _)).mvB ((Below.refl _ _).alloc (Nat.le_refl _) _), ?_, ?_, by simp⟩
  · exact ((Box.new_ (W := boxM w i o A n c) (by simp) (.int .i64 s) 3).alloc _).1
  · exact (Box.new_ (by simp) (.slice W k d) 29).1
theorem M.check_zero' {zs : List Int} {n : Int} (h : M.check zs n = 0) : n ≤ 16 ∧ 1 ≤ n ∧ zs.length ≤ 256 ∧ ∀ z ∈ zs, 0 ≤ z ∧ z < n := by
  unfold M.check at h
  by_cases h1 : 16 < n ∨ 256 < zs.length
  · rw [if_pos h1] at h; omega
  · rw [if_neg h1] at h
    by_cases h2 : n < 1
    · rw [if_pos h2] at h; omega
    · rw [if_neg h2] at h
      refine ⟨by omega, by omega, by omega, fun z hz => ?_⟩
      cases hb : M.badB n z
      · simp [M.badB] at hb; omega
      · have : zs.any (M.badB n) = true := List.any_eq_true.2 ⟨z, hz, hb⟩
        simp [M.badI, this] at h
theorem runE_ok0 {m : Ma} {s : Int} {ws : List Int} (h : Mc.runE m s ws = 0) : Mc.Val m ∧ Mc.St m s ∧ Mc.Wd m ws ∧ ws.length ≤ 256 := by
  have hc : Mc.cst m s = 0 := by
    rw [Mc.runE_cst] at h
    split at h
    · rename_i h1; exact absurd h h1
    · rename_i h1; simpa using h1
  obtain ⟨V, h1, h2⟩ := Mc.cst_val hc
  rw [Mc.runE_cst, if_neg (by simp [hc])] at h
  obtain ⟨_, _, hl, hv⟩ := M.check_zero' h
  exact ⟨V, .inr ⟨h1, h2⟩, hv, by omega⟩

end Go.Proofs.Ytonnplhiaidjnaa

namespace Go.Proofs.Ytonnplhiaidjnaa
open Go.RowKit
open Mc (Ed Ma Pe)
attribute [local go_sem] Oper.semAt_some

/-- A response that is written, cell by cell: the first k outputs stand. -/
def Mc.part (m : Ma) (s : Int) (ws : List Int) (k : Nat) : List Int := Mc.run m s (ws.take k) ++ List.replicate (ws.length - k) 0
theorem Mc.part_len (m : Ma) (s : Int) (ws : List Int) {k : Nat} (h : k ≤ ws.length) : (Mc.part m s ws k).length = ws.length := by
  unfold Mc.part
  rw [List.length_append, Mc.run_len, List.length_take, List.length_replicate]; omega
theorem Mc.part_zero (m : Ma) (s : Int) (ws : List Int) : Mc.part m s ws 0 = List.replicate ws.length 0 := by simp [Mc.part, Mc.run]
theorem Mc.part_all (m : Ma) (s : Int) (ws : List Int) : Mc.part m s ws ws.length = Mc.run m s ws := by simp [Mc.part]
theorem Mc.part_next {m : Ma} {s : Int} {ws : List Int} {k : Nat} (h : k < ws.length) : (Mc.part m s ws k).set k (Mc.tke m s ws k).2 = Mc.part m s ws (k + 1) := by
  unfold Mc.part
  rw [Mc.run_take h]
  have hl : (Mc.run m s (ws.take k)).length = k := by rw [Mc.run_len, List.length_take]; omega
  rw [List.set_append_right _ _ (by omega), hl, Nat.sub_self, show ws.length - k = (ws.length - (k + 1)) + 1 by omega, List.replicate_succ, List.set_cons_zero, List.append_assoc]
  rfl

/-- The response in a block of the call's own, its slice in a box. -/
structure Rn (w : World) (g r p : Nat) (i o : Int) (A : Option Addr) (n c k : Nat) (l : List Int) (W : World) : Prop where
  fr : Fr1 w g r i o A n c (.slice (some ⟨p, 0, none⟩) k k) W
  blk : BlkR W p l
  p0 : w.heap.size ≤ p
  pg : p ≠ g
  pr : p ≠ r
section
variable {w W W' : World} {g r p k : Nat} {i o : Int} {A : Option Addr} {n c : Nat} {l : List Int}
theorem Rn.cells {B : Nat} (h : Rn w g r p i o A n c k l W) (kk : Cells B W W') (hB : w.heap.size ≤ B) : Rn w g r p i o A n c k l W' :=
  ⟨h.fr.cells kk hB, h.blk.mvC kk, h.p0, h.pg, h.pr⟩
theorem Rn.below (h : Rn w g r p i o A n c k l W) (kk : Below W.heap.size W W') : Rn w g r p i o A n c k l W' := h.cells (Cells.of_below' kk) h.fr.bel.size
theorem Rn.shut (h : Rn w g r p i o A n c k l W) {N : Nat} (hN : W.heap[N]? = some (.deferred (some []))) (hw : w.heap.size ≤ N) : Rn w g r p i o A n c k l (W.putObj N (.deferred none)) :=
  h.cells (B := w.heap.size) (Cells.put _ hN rfl hw) (Nat.le_refl _)
theorem Rn.put (h : Rn w g r p i o A n c k l W) (q : Nat) (y : Int) : Rn w g r p i o A n c k (l.set q y) (W.setCell ⟨p, q, none⟩ (.int .i64 y)) :=
  ⟨⟨h.fr.bel.setCell (p := ⟨p, q, none⟩) h.p0 _, h.fr.bm.farS h.pg.symm _, h.fr.br.far h.pr.symm _, h.fr.g0, h.fr.r0, h.fr.ne⟩, h.blk.set_ q y, h.p0, h.pg, h.pr⟩
end

set_option maxRecDepth 100000 in
set_option maxHeartbeats 1600000 in
theorem prun_any (i o s : Int) (rs : List (List Ed)) (ws : List Int) (A W : Option Addr) (n c k d : Nat) (w : World) (hr : RdR w A rs) (hw : Rd w W ws) (hn : rs.length = n) (hnb : n ≤ 1000000) (hrl : ∀ row ∈ rs, row.length ≤ 1000000) (hk : ws.length = k) (hkb : k ≤ 1000000) :
    Calls Try.prog 82 #[.agg #[.int .i64 i, .int .i64 o, .slice A n c], .int .i64 s, .slice W k d] w fun e w' => ∃ B j, e = .returned (.tuple #[.slice B j j, .int .i64 (Mc.runE ⟨i, o, rs⟩ s ws)]) ∧ Hid ((Mc.runV ⟨i, o, rs⟩ s ws).length = j) ∧ Rd w' B (Mc.runV ⟨i, o, rs⟩ s ws) ∧ Below w.heap.size w w' := by
  subst hn hk
  have RL := Lib.hid hrl
  clear hrl
  have hb0 : Below w.heap.size w (boxM w i o A rs.length c) := (Below.refl _ _).alloc (Nat.le_refl _) _
  obtain ⟨m, _⟩ : ∃ m : Nat, True := ⟨3, trivial⟩
  refine (callsIn_wide (n := m)).1 ?_
  refine callsIn_of_wp_marks Try.func82 rfl trivial ?_
  simp only [Try.ntmps82, List.size_toArray, List.length_cons, List.length_nil, Nat.reduceAdd, Nat.reduceSub, Array.replicate_succ, Array.replicate_zero, List.push_toArray, List.append_toArray, List.nil_append, List.cons_append]
  gi_wp2_with fail
  refine wide_calls (checkWord_any i o s rs ws A W rs.length c ws.length d _ (hr.below hb0) (hw.below hb0) rfl hnb RL.out rfl hkb) ?_
  rintro e w1 ⟨rfl, hb1⟩
  have hB1 := below_next hb0 hb1
  have hM1 := (BxM.new w i o A rs.length c).mvB hb1
  have hz0 : w.heap.size < w1.heap.size := heap_lt hM1
  clear hb0 hb1
  obtain ⟨q0, q1, q2⟩ := hM1.cells
  by_cases hz : Mc.runE ⟨i, o, rs⟩ s ws = 0
  · obtain ⟨V, hSt, hWd, hle⟩ := runE_ok0 hz
    have hv : Hid (Mc.runV ⟨i, o, rs⟩ s ws = Mc.run ⟨i, o, rs⟩ s ws) := by show _ = _; unfold Mc.runV; rw [if_pos hz]
    rw [hz]
    gi_wp2_with (gi_at_make; go_loud (refine wpListIn_make_intsR _ rfl _ _ rfl _ ws.length rfl rfl rfl (by omega) ?_; intro w2 hB2 hb2; have hM2' := (hM1.mvB hb2).mvB ((Below.refl _ w2).alloc (Nat.le_refl _) (.cells #[.slice (some ⟨w1.heap.size, 0, none⟩) ws.length ws.length] 29)); obtain ⟨q0', q1', q2'⟩ := hM2'.cells))
    refine wide_calls (taken_any _ _ _ _ _ _ _ _ _ _) ?_
    rintro e w3 ⟨rfl, rfl⟩
    gi_wp2_with fail
    have hB2w := below_next hB1 hb2
    have hp12 : w1.heap.size < w2.heap.size := hB2.lt
    obtain ⟨W3, hW3⟩ : ∃ W3, w2.alloc (.cells #[.slice (some ⟨w1.heap.size, 0, none⟩) ws.length ws.length] 29) = W3 := ⟨_, rfl⟩
    have hU0 : Rn w w.heap.size w2.heap.size w1.heap.size i o A rs.length c ws.length (Mc.part ⟨i, o, rs⟩ s ws 0) W3 := by
      rw [← hW3, Mc.part_zero]
      exact ⟨⟨hB2w.alloc (by omega) _, hM2', Box.new _ _ _, Nat.le_refl _, by omega, by omega⟩, hB2.mvC (Cells.of_below' ((Below.refl _ _).alloc (Nat.le_refl _) _)), by omega, by omega, by omega⟩
    rw [hW3]
    obtain ⟨r, hrr⟩ : ∃ r, w2.heap.size = r := ⟨_, rfl⟩
    obtain ⟨p, hpp⟩ : ∃ p, w1.heap.size = p := ⟨_, rfl⟩
    have hsr : W3.heap.size = r + 1 := by rw [← hW3, World.size_alloc, hrr]
    rw [hrr, hpp] at hU0 hp12
    rw [hpp] at hz0
    rw [hrr, hpp]
    clear hW3 hM2' q0' q1' q2' hB2w hb2 hB2 hrr hB1 hM1 q0 q1 q2 hpp w2
    clear w1
    obtain ⟨hbx, hbM, hbs, hbw, hsz⟩ := taken_lies W3 i o s A W rs.length c ws.length d
    rw [hsr] at hbM hbs hbw
    have hG := taken1_gives (m - 1) (r + 1) (r + 1 + 1) (r + 1 + 1 + 1) ⟨i, o, rs⟩ s ws A W rs.length c ws.length d (fun b => b = p) w (takenW W3 i o s A W rs.length c ws.length d) V hSt hWd hr hw rfl rfl hkb (below_next hU0.fr.bel hbx) hbM hbs hbw (by show ¬ _ = _; omega) (fun b h => by show w.heap.size ≤ b; omega) (fun b h => by rw [hsz]; omega)
    have hF1 := hU0.below hbx
    have hsW : w.heap.size ≤ (takenW W3 i o s A W rs.length c ws.length d).heap.size := by rw [hsz]; omega
    clear hbx hbM hbs hbw hU0
    refine range_list (m := m) 90 _ rfl (enters_of Try.func90 (by kernel_rfl) rfl) ((List.range ws.length).map (tv ⟨i, o, rs⟩ s ws)) (fun b => b = p) (fun b h => by rw [hsz]; omega) ?hps hG
      (fun k W => Rn w w.heap.size r p i o A rs.length c ws.length (Mc.part ⟨i, o, rs⟩ s ws k) W)
      (fun _ _ => False)
      (fun k A B h1 c => h1.cells c hsW) (fun c' A B h c => h) hF1 ?round ?done ?stop
    case hps => intro v hv; obtain ⟨p, _, rfl⟩ := List.mem_map.1 hv; rfl
    case round =>
      intro l k v W hk hW hI
      rw [List.getElem?_map, Option.map_eq_some_iff] at hk
      obtain ⟨k', hp, rfl⟩ := hk
      have hkl : k < ws.length := by have := (List.getElem?_eq_some_iff.1 hp).1; simpa using this
      rw [List.getElem?_range hkl] at hp
      injection hp with hp
      subst hp
      have HN := Lib.hid (Mc.part_next (m := ⟨i, o, rs⟩) (s := s) hkl)
      have HL := Lib.hid (Mc.part_len ⟨i, o, rs⟩ s ws (Nat.le_of_lt hkl))
      obtain ⟨⟨x, y⟩, hxy⟩ : ∃ x, Mc.tke ⟨i, o, rs⟩ s ws k = x := ⟨_, rfl⟩
      rw [hxy] at HN
      simp only [tv, hxy]
      clear hxy
      gi_wp2_with fail
      refine ⟨(Below.refl _ _).alloc (Nat.le_refl _) _, fun W2 hc2 => ?_⟩
      obtain ⟨p0, p1, _, _⟩ := ((BxE.new W x y).mvC hc2).cells
      have hI2 := (hI.below ((Below.refl _ _).alloc (Nat.le_refl _) (.cells #[.int .i64 x, .int .i64 y] 58))).cells hc2 (by omega)
      have qc := hI2.fr.br.1
      have qf := hI2.fr.br.2
      obtain ⟨u1, u2⟩ := hI2.blk.at_ (k := k) (by rw [HL.out]; exact hkl)
      clear hc2 hI hW
      have R : roundP (fun b => b = p) (fun k W => Rn w w.heap.size r p i o A rs.length c ws.length (Mc.part ⟨i, o, rs⟩ s ws k) W) (fun _ _ => False) k W2 .normal ⟨#[], []⟩ (W2.setCell ⟨p, k, none⟩ (.int .i64 y)) := by
        refine ⟨?_, KA.one _ _ _⟩
        show Rn w w.heap.size r p i o A rs.length c ws.length (Mc.part ⟨i, o, rs⟩ s ws (k + 1)) _
        rw [← HN.out]
        exact hI2.put k y
      have RH := Lib.hid R
      clear R
      gi_wp2_with fail
      exact RH.out
    case done =>
      intro N W hN hI hd
      have hst : Mc.part ⟨i, o, rs⟩ s ws ((List.range ws.length).map (tv ⟨i, o, rs⟩ s ws)).length = Mc.run ⟨i, o, rs⟩ s ws := by
        rw [List.length_map, List.length_range]; exact Mc.part_all _ _ _
      replace hI : Rn w w.heap.size r p i o A rs.length c ws.length (Mc.run ⟨i, o, rs⟩ s ws) W := by rw [← hst]; exact hI
      clear hst
      have qc := hI.fr.br.1
      have hI3 := hI.shut hd (Nat.le_trans hsW hN)
      simp only [marked]
      gi_wp2_with fail
      refine ⟨by simp, .inl ⟨_, _, rfl, run_takeDeferred hd, ?_⟩⟩
      refine ⟨.tuple #[.slice (some ⟨p, 0, none⟩) ws.length ws.length, .int .i64 0], ?_, some ⟨p, 0, none⟩, ws.length, by rw [hz], by rw [hv.out]; exact Mc.run_len _ _ _, by rw [hv.out]; exact hI3.blk.rd, hI3.fr.bel⟩
      simp [results, Try.f82, go_sem]
    case stop =>
      rintro N c' W hN h hd
      exact h.elim
  · have hzb : (Mc.runE ⟨i, o, rs⟩ s ws == 0) = false := by rw [beq_eq_false_iff_ne]; exact hz
    have hv : Hid (Mc.runV ⟨i, o, rs⟩ s ws = []) := by show _ = _; unfold Mc.runV; rw [if_neg hz]
    obtain ⟨z, hzz⟩ : ∃ z, Mc.runE ⟨i, o, rs⟩ s ws = z := ⟨_, rfl⟩
    rw [hzz] at hz hzb ⊢
    have HZ := Lib.hid hzz
    clear hzz
    gi_wp2_with fail
    refine ⟨.tuple #[.slice none 0 0, .int .i64 z], ?_, none, 0, by rw [HZ.out], by rw [hv.out]; rfl, by rw [hv.out]; exact Rd.nil_, hB1⟩
    simp [results, Try.f82, go_sem]
end Go.Proofs.Ytonnplhiaidjnaa
