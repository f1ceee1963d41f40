/-
  Contracts: the iterator over the edges that a word takes. No statement is proved here.
-/
import Derived.Test.YtonnplhiaidjnaaSMd7
namespace Go.Proofs.Ytonnplhiaidjnaa
open Go.RowKit
open Mc (Ed Ma Pe)

namespace Mc
/-- The state before the symbol k of a word, and the edge that is taken there. -/
def stt (m : Ma) (s : Int) (ws : List Int) (k : Nat) : Int := aft m s (ws.take k)
def tke (m : Ma) (s : Int) (ws : List Int) (k : Nat) : Ed := nx m (stt m s ws k) ((ws[k]?).getD 0)
theorem stt_zero (m : Ma) (s : Int) (ws : List Int) : stt m s ws 0 = s := rfl
theorem stt_next {m : Ma} {s : Int} {ws : List Int} {k : Nat} (h : k < ws.length) : stt m s ws (k + 1) = (tke m s ws k).1 := by
  unfold stt tke stt
  rw [List.take_add_one, List.getElem?_eq_getElem h, aft_app]
  rfl
theorem stt_all (m : Ma) (s : Int) (ws : List Int) {n : Nat} (h : ws.length ≤ n) : stt m s ws n = aft m s ws := by
  unfold stt; rw [List.take_of_length_le h]
theorem stt_st {m : Ma} (v : Val m) {s : Int} {ws : List Int} (hs : St m s) (hw : Wd m ws) (k : Nat) : St m (stt m s ws k) :=
  aft_st v _ _ hs fun c hc => hw c (List.mem_of_mem_take hc)
theorem run_take {m : Ma} {s : Int} {ws : List Int} {k : Nat} (h : k < ws.length) : run m s (ws.take (k + 1)) = run m s (ws.take k) ++ [(tke m s ws k).2] := by
  rw [List.take_add_one, List.getElem?_eq_getElem h, run_app]
  show _ ++ run m _ [_] = _
  simp [run, tke, stt, List.getElem?_eq_getElem h]
end Mc
/-- The values that are yielded for a symbol. -/
def tv (m : Ma) (s : Int) (ws : List Int) (k : Nat) : Array Value := #[.int .i64 k, .agg #[.int .i64 (Mc.tke m s ws k).1, .int .i64 (Mc.tke m s ws k).2]]

theorem taken_any (i o s : Int) (A W : Option Addr) (n c k d : Nat) (w : World) :
    Calls Try.prog 87 #[.agg #[.int .i64 i, .int .i64 o, .slice A n c], .int .i64 s, .slice W k d] w fun e w' => e = .returned (.func (.func 90) #[] #[.pointer (some ⟨w.heap.size + 1, 0, none⟩), .pointer (some ⟨w.heap.size + 1 + 1, 0, none⟩), .pointer (some ⟨w.heap.size, 0, none⟩)]) ∧
      w' = ((boxM w i o A n c).alloc (.cells #[.int .i64 s] 3)).alloc (.cells #[.slice W k d] 29) := by
  go_enter Try.func87, Try.ntmps87
  go_wp2
  go_ret
  exact ⟨rfl, rfl⟩

set_option maxRecDepth 100000 in
set_option maxHeartbeats 1600000 in
theorem taken1_gives (mm c cs cw : Nat) (m : Ma) (s : Int) (ws : List Int) (A B : Option Addr) (n d k e : Nat) (D : Nat → Prop) (w0 w : World) (V : Mc.Val m) (hs : Mc.St m s) (hwd : Mc.Wd m ws)
    (hr : RdR w0 A m.r) (hw : Rd w0 B ws) (hn : m.r.length = n) (hk : ws.length = k) (hkb : k ≤ 1000000) (h0w : Below w0.heap.size w0 w) (hbx : BxM w c m.i m.o A n d) (hcs : w.cell? ⟨cs, 0, none⟩ = some (.int .i64 s)) (hcw : w.cell? ⟨cw, 0, none⟩ = some (.slice B k e))
    (hDc : ¬ D c) (hD0 : ∀ b, D b → w0.heap.size ≤ b) (hDl : ∀ b, D b → b < w.heap.size) :
    Gives mm 90 #[.pointer (some ⟨cs, 0, none⟩), .pointer (some ⟨cw, 0, none⟩), .pointer (some ⟨c, 0, none⟩)] ((List.range k).map (tv m s ws)) D w := by
  intro l J Jx W hW hJ hJx hY hJ0
  subst hn hk
  have hcl : c < w.heap.size := heap_lt hbx
  have hlt' : ∀ {b o v}, w.cell? ⟨b, o, none⟩ = some v → W.cell? ⟨b, o, none⟩ = some v := fun h => by
    obtain ⟨x, hx, _⟩ := cell_block h
    exact (hW.cell (p := ⟨_, _, none⟩) (hlt hx)).trans h
  have k2 : W.cell? ⟨c, 2, none⟩ = some (.slice A m.r.length d) := hlt' hbx.cells.2.2
  have k3 := hlt' hcs
  have k4 := hlt' hcw
  have hs0 : ∀ (wr : World), KC D W wr → ∀ b o v, b < w0.heap.size → w0.cell? ⟨b, o, none⟩ = some v → wr.cell? ⟨b, o, none⟩ = some v := fun wr hk b o v hb hv =>
    hk.cell (fun h => by have := hD0 b h; omega) ((hW.cell (p := ⟨b, o, none⟩) (by have := h0w.size; show b < _; omega)).trans ((h0w.cell (p := ⟨b, o, none⟩) hb).trans hv))
  have hrow : ∀ (wr : World), KC D W wr → wr.cell? ⟨c, 2, none⟩ = some (.slice A m.r.length d) := fun wr hk => hk.cell hDc k2
  have hnw : ∀ (wr : World), W.heap.size ≤ wr.heap.size → ¬ D wr.heap.size := fun wr h hd => by have := hDl _ hd; have := hW.size; omega
  have JJ := Lib.hid hJ
  have JX := Lib.hid hJx
  have YY := Lib.hid hY
  have SS := Lib.hid hs0
  have RR := Lib.hid hrow
  have NN := Lib.hid hnw
  have HS := Lib.hid (fun k => Mc.stt_st V (ws := ws) hs hwd k)
  have WD := Lib.hid hwd
  have LN := Lib.hid V.len
  clear hJ hJx hY hs0 hrow hnw hW hbx hDc hD0 hDl h0w hcl k2 hcs hcw hlt' hs hwd V
  refine callsIn_of_wp Try.func90 rfl trivial ?_ rfl
  simp only [Try.ntmps90, List.size_toArray, List.length_cons, List.length_nil, Nat.reduceAdd, Nat.reduceSub, Array.replicate_succ, Array.replicate_zero, List.push_toArray, List.append_toArray, List.nil_append, List.cons_append]
  gi_wp2
  gi_loopw [5, 12] (fun a v wr => ∃ q : Nat, q ≤ ws.length ∧ v = .int .i64 q ∧ a = .int .i64 (Mc.stt m s ws q) ∧ J q wr ∧ KC D W wr) (fun _ v _ => ws.length - (intOf v).toNat)
  case atStart => exact ⟨0, Nat.zero_le _, rfl, rfl, hJ0, ⟨Nat.le_refl _, fun _ _ _ h _ => h⟩⟩
  case round =>
    obtain ⟨q, hq, rfl, rfl, hj, hkc⟩ := hrel
    clear k3 k4 hJ0
    by_cases hlt2 : q < ws.length
    · obtain ⟨bw, offw, z, rfl, hbw, hcz0, hz⟩ := hw.at_ hlt2
      have hcz := SS.out wr hkc _ _ _ hbw hcz0
      have hzq : ws[q]? = some z := by have := hz.out; rw [List.getElem?_eq_getElem hlt2] at this ⊢; simpa using this
      have hzb := WD.out z (List.mem_of_getElem? hzq)
      have hsz := hkc.1
      have hat : Hid (((List.range ws.length).map (tv m s ws))[q]? = some (tv m s ws q)) := by
        show _ = _
        rw [List.getElem?_map, List.getElem?_range hlt2]; rfl
      have hnx := Lib.hid (Mc.stt_next (m := m) (s := s) hlt2)
      have htk : Hid (Mc.tke m s ws q = Mc.nx m (Mc.stt m s ws q) z) := by show _ = _; unfold Mc.tke; rw [hz.out]
      have hst := HS.out q
      obtain ⟨st, hste⟩ : ∃ st, Mc.stt m s ws q = st := ⟨_, rfl⟩
      rw [hste] at hst htk ⊢
      obtain ⟨⟨x, y⟩, hxy⟩ : ∃ x, Mc.nx m st z = x := ⟨_, rfl⟩
      rw [hxy] at htk
      clear hste hcz0 hz
      have hq0 := RR.out wr hkc
      have hbA : Below wr.heap.size wr (wr.alloc (.cells #[.int .i64 x, .int .i64 y] 58)) := (Below.refl _ _).alloc (Nat.le_refl _) _
      obtain ⟨fn, tmps, assign, body, hyl, hR⟩ := YY.out _ _ _ hat.out (JJ.out _ _ _ hj hbA)
      have hkA := Lib.hid (hkc.trans (KC.of_below hbA))
      have hnd := NN.out wr hsz
      have p0 : (wr.alloc (.cells #[.int .i64 x, .int .i64 y] 58)).cell? ⟨wr.heap.size, 0, none⟩ = some (.int .i64 x) := by rw [World.cell?_alloc_at _ _ _ _ rfl]; rfl
      have p1 : (wr.alloc (.cells #[.int .i64 x, .int .i64 y] 58)).cell? ⟨wr.heap.size, 1, none⟩ = some (.int .i64 y) := by rw [World.cell?_alloc_at _ _ _ _ rfl]; rfl
      simp only [tv, htk.out] at hyl
      have PP := Lib.hid p0
      rcases hst with rfl | ⟨h1, h2⟩
      · have hxy2 : (x, y) = ((-1, -1) : Int × Int) := by rw [← hxy]; exact Mc.nx_neg (by omega)
        injection hxy2 with e1 e2
        subst e1 e2
        clear hbA hkc hj hq0 hxy
        gi_wp2_with fail
        refine ⟨(fun h => by simp [Fence.wide] at h), hR.mono ?_⟩
        rintro e W3 (⟨rfl, hJ3, hk3⟩ | ⟨rfl, hJx3⟩)
        · have r0 := hk3.cell hnd PP.out
          clear hyl hR p0 p1
          gi_wp2
          go_roundw
          case rel => exact ⟨q + 1, by omega, by go_num, by rw [hnx.out, htk.out], hJ3, hkA.out.trans hk3⟩
          case measure => simp [intOf]; omega
        · clear hyl hR p0 p1
          gi_wp2
          refine bodyPost_ret (results_none rfl _ _ _) rfl ?_
          exact ⟨⟨_, rfl⟩, .inr hJx3⟩
      · obtain ⟨st, rfl⟩ := Int.eq_ofNat_of_zero_le h1
        obtain ⟨z, rfl⟩ := Int.eq_ofNat_of_zero_le hzb.1
        have hl : st < m.r.length := by omega
        obtain ⟨b, off, C, dd, qn, row, rfl, hb, hcw2, _, _, _, hp, hln, hqr⟩ := hr.at_ hl
        have hrl := LN.out row (List.mem_of_getElem? hqr.out)
        have hkl : z < row.length := by omega
        obtain ⟨b2, off2, x', y', rfl, hb2, hx0, hy0, hqe⟩ := hp.at_ hkl
        have hxe : ((x', y') : Ed) = (x, y) := by rw [← hxy]; exact (Mc.nx_at hqr.out hqe.out).symm
        injection hxe with e1 e2
        subst e1 e2
        have hc1 := SS.out wr hkc _ _ _ hb hcw2
        have hx := SS.out wr hkc _ _ _ hb2 hx0
        have hy := SS.out wr hkc _ _ _ hb2 hy0
        have hkq : z < qn := by rw [← hln.out]; exact hkl
        have hsn : ((st : Int) == -1) = false := by rw [beq_eq_false_iff_ne]; omega
        have cB := Cells.of_below' (show Below wr.heap.size wr (wr.alloc (.cells #[.int .i64 (-1), .int .i64 (-1)] 58)) from (Below.refl _ _).alloc (Nat.le_refl _) _)
        have a0 := cB.cell hq0
        have a1 := cB.cell hc1
        have a2 := cB.cell hx
        have a3 := cB.cell hy
        clear hbA hkc hj hxy hcw2 hx0 hy0 hrl hkl hl h1 hzb hzq cB
        gi_wp2_with fail
        refine ⟨(fun h => by simp [Fence.wide] at h), hR.mono ?_⟩
        rintro e W3 (⟨rfl, hJ3, hk3⟩ | ⟨rfl, hJx3⟩)
        · have r0 := hk3.cell hnd PP.out
          clear hyl hR p0 p1 hq0 hc1 hx hy a0 a1 a2 a3
          gi_wp2
          go_roundw
          case rel => exact ⟨q + 1, by omega, by go_num, by rw [hnx.out, htk.out], hJ3, hkA.out.trans hk3⟩
          case measure => simp [intOf]; omega
        · clear hyl hR p0 p1
          gi_wp2
          refine bodyPost_ret (results_none rfl _ _ _) rfl ?_
          exact ⟨⟨_, rfl⟩, .inr hJx3⟩
    · have hJn : J ((List.range ws.length).map (tv m s ws)).length wr := by
        rw [List.length_map, List.length_range, show ws.length = q by omega]; exact hj
      have JN := Lib.hid hJn
      clear hJn hj
      gi_wp2
      go_end0
      exact ⟨⟨_, rfl⟩, .inl JN.out⟩
end Go.Proofs.Ytonnplhiaidjnaa
