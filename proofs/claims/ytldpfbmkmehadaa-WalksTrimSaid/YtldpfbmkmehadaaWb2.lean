/-
  Contracts: Distances, Path. No statement is proved here.
-/
import Derived.Test.YtldpfbmkmehadaaWb1
namespace Go.Proofs.Ytldpfbmkmehadaa
open Go.RowKit
open Mc (Ed Ma Wv)
attribute [local go_sem] Oper.semAt_some

namespace Mc
theorem look_take {m : Ma} {s : Int} {L : List Wv} {p k : Nat} {j : Int} {x : Wv} (v : Val m) (h : BF m s L p j) (hk : L[k]? = some x) : (L.take k).lookup x.1 = none := by
  refine look_of_none fun e he e1 => ?_
  obtain ⟨a, ha⟩ := List.mem_iff_getElem?.1 he
  rw [List.getElem?_take] at ha
  split at ha
  · rename_i hak
    have h1 := h.nodup v
    have hkl := (List.getElem?_eq_some_iff.1 hk).1
    have hal := (List.getElem?_eq_some_iff.1 ha).1
    have := (List.pairwise_iff_getElem.1 h1) a k (by simpa using hal) (by simpa using hkl) hak
    rw [List.getElem_map, List.getElem_map] at this
    rw [List.getElem?_eq_getElem hal] at ha
    rw [List.getElem?_eq_getElem hkl] at hk
    injection ha with ha
    injection hk with hk
    rw [ha, hk] at this
    exact this e1
  · cases ha
theorem take_snocW {L : List Wv} {k : Nat} {x : Wv} (hk : L[k]? = some x) : L.take (k + 1) = L.take k ++ [x] := by
  rw [List.take_add_one, hk]
  rfl
/-- What Distances and Path tell. -/
def dstV (m : Ma) (s : Int) : List Int := if chkS m [s] = 0 then tab oD (wk m s) m.r.length else []
def pthV (m : Ma) (s t : Int) : List Int := if chkS m [s, t] = 0 then oW ((wk m s).lookup t) else []
def pthB (m : Ma) (s t : Int) : Bool := if chkS m [s, t] = 0 then oB ((wk m s).lookup t) else false
theorem chkS_ok {m : Ma} {l : List Int} (h : chkS m l = 0) : Val m ∧ ∀ s ∈ l, 0 ≤ s ∧ s < m.r.length := by
  unfold chkS at h
  split at h
  · rename_i h1
    exact absurd h h1
  · rename_i h1
    split at h
    · rename_i h2
      refine ⟨val_of (by simpa using h1), fun s hs => ?_⟩
      have := List.all_eq_true.1 h2 s hs
      simpa using this
    · cases h
end Mc

/-- The memory of Distances: the list, its box. -/
structure Ds (w : World) (gS gB n : Nat) (l : List Int) (W : World) : Prop where
  bel : Below w.heap.size w W
  bs : Box W gB (.slice (some ⟨gS, 0, none⟩) n n)
  bk : Blk W gS l
  sB : w.heap.size ≤ gB
  sS : w.heap.size ≤ gS
  ne : gS ≠ gB
theorem Ds.ch {w : World} {gS gB n M : Nat} {l : List Int} {W W' : World} (h : Ds w gS gB n l W) (k : Ch M W W') (h1 : gB < M) (hw : w.heap.size ≤ M) : Ds w gS gB n l W' :=
  ⟨k.below hw h.bel, h.bs.ch k h1, h.bk.ch k, h.sB, h.sS, h.ne⟩
theorem Ds.below {w : World} {gS gB n : Nat} {l : List Int} {W W' : World} (h : Ds w gS gB n l W) (k : Below W.heap.size W W') : Ds w gS gB n l W' :=
  ⟨below_next h.bel k, h.bs.below k, h.bk.mvB k, h.sB, h.sS, h.ne⟩
/-- What Distances hands back. -/
def DstP (w : World) (m : Ma) (s : Int) (e : Ending) (w' : World) : Prop := ∃ B k, e = .returned (.tuple #[.slice B k k, .int .i64 (Mc.chkS m [s])]) ∧ Hid ((Mc.dstV m s).length = k) ∧ Rd w' B (Mc.dstV m s) ∧ Below w.heap.size w w'

set_option maxRecDepth 100000 in
set_option maxHeartbeats 4000000 in
theorem wdist_any (i o : Int) (rs : List (List Ed)) (A : Option Addr) (n c : Nat) (s : Int) (w : World) (hr : RdR w A rs) (hn : rs.length = n) (hnb : n ≤ 1000000) (hrl : ∀ row ∈ rs, row.length ≤ 1000000) :
    Calls Try.prog 20 #[.agg #[.int .i64 i, .int .i64 o, .slice A n c], .int .i64 s] w (DstP w ⟨i, o, rs⟩ s) := by
  have RL := Lib.hid hrl
  have HN := Lib.hid hn
  obtain ⟨mm, _⟩ : ∃ mm : Nat, True := ⟨3, trivial⟩
  have hM0 := BxM.new w i o A n c
  have hb0 : Below w.heap.size w (boxM w i o A n c) := (Below.refl _ _).alloc (Nat.le_refl _) _
  have hb1 : Below w.heap.size w ((boxM w i o A n c).alloc (.cells #[.int .i64 s] 3)) := hb0.alloc (by simp) _
  have hS1 : Rd ((boxM w i o A n c).alloc (.cells #[.int .i64 s] 3)) (some ⟨w.heap.size + 1, 0, none⟩) [s] := by
    have := Rd.of_block (t := 3) (zs := [s]) (heap_alloc_new (boxM w i o A n c) _)
    rw [World.size_alloc] at this
    exact this
  have hM1 := hM0.mvB ((Below.refl _ _).alloc (Nat.le_refl _) (.cells #[.int .i64 s] 3))
  have hr1 := hr.below hb1
  clear hrl hb0 hM0
  refine (callsIn_wide (n := mm)).1 ?_
  refine callsIn_of_wp_marks Try.func20 rfl trivial ?_
  simp only [Try.ntmps20, List.size_toArray, List.length_cons, List.length_nil, Nat.reduceAdd, Nat.reduceSub, Array.replicate_succ, Array.replicate_zero, List.push_toArray, List.append_toArray, List.nil_append, List.cons_append]
  gi_wp2_with fail
  refine wide_calls (wcheck_any i o rs A n c _ 1 1 [s] _ hr1 hn hnb RL.out hS1 rfl (by omega)) ?_
  rintro e w2 ⟨rfl, hb2⟩
  have hB2 := below_next hb1 hb2
  have hM2 := hM1.mvB hb2
  have hz2 : w.heap.size < w2.heap.size := heap_lt hM2
  obtain ⟨q0, q1, q2⟩ := hM2.cells
  clear hb1 hS1 hM1 hr1 hb2
  by_cases hz : Mc.chkS ⟨i, o, rs⟩ [s] = 0
  · have hv : Hid (Mc.dstV ⟨i, o, rs⟩ s = Mc.tab Mc.oD (Mc.wk ⟨i, o, rs⟩ s) n) := by
      show _ = _
      unfold Mc.dstV
      rw [if_pos hz, hn]
    obtain ⟨V, hsr⟩ := Mc.chkS_ok hz
    have hs := hsr s (by simp)
    simp only [hn] at hs
    have HV := Lib.hid V
    have hr64 : n ≤ 64 := by have := V.r1; simp only [hn] at this; exact this
    have HZ := Lib.hid hz
    obtain ⟨hs0, hs1⟩ := hs
    obtain ⟨s, rfl⟩ := Int.eq_ofNat_of_zero_le hs0
    rw [hz]
    clear V hsr hz
    gi_wp2_with fail
    refine wide_calls (nones_any n w2 (by omega)) ?_
    rintro e w3 ⟨gS, rfl, hgS, hBk, hb3⟩
    have hB3 := below_next hB2 hb3
    have hM3 := hM2.mvB hb3
    have hz3 := hb3.size
    have hgl : gS < w3.heap.size := hBk.lt
    clear q0 q1 q2 hM2
    have q0 : ∀ ob, (w3.alloc ob).cell? ⟨w.heap.size, 0, none⟩ = some (.int .i64 i) := fun ob => (hM3.mvB ((Below.refl _ _).alloc (Nat.le_refl _) ob)).cells.1
    have q1 : ∀ ob, (w3.alloc ob).cell? ⟨w.heap.size, 1, none⟩ = some (.int .i64 o) := fun ob => (hM3.mvB ((Below.refl _ _).alloc (Nat.le_refl _) ob)).cells.2.1
    have q2 : ∀ ob, (w3.alloc ob).cell? ⟨w.heap.size, 2, none⟩ = some (.slice A n c) := fun ob => (hM3.mvB ((Below.refl _ _).alloc (Nat.le_refl _) ob)).cells.2.2
    gi_wp2_with fail
    refine wide_calls (walk_any _ _ _ _ _ _ _) ?_
    rintro e w4 ⟨rfl, rfl⟩
    gi_wp2_with fail
    obtain ⟨gB, hgB⟩ : ∃ gB, w3.heap.size = gB := ⟨_, rfl⟩
    obtain ⟨Wl, hWl⟩ : ∃ Wl, (boxM (w3.alloc (.cells #[.slice (some ⟨gS, 0, none⟩) n n] 36)) i o A n c).alloc (.cells #[.int .i64 s] 3) = Wl := ⟨_, rfl⟩
    rw [hgB, hWl]
    have hbB : Below w3.heap.size w3 Wl := by rw [← hWl]; exact (((Below.refl _ _).alloc (Nat.le_refl _) _).alloc (by simp) _).alloc (by simp; omega) _
    have hbw : Below w.heap.size w Wl := below_next hB3 hbB
    have hzl : Wl.heap.size = gB + 3 := by rw [← hWl, ← hgB]; simp
    have hbx : BxM Wl (gB + 1) i o A rs.length c := by
      rw [← hWl, ← hgB, hn]
      exact (BxM.newE (by simp) i o A n c).mvB ((Below.refl _ _).alloc (Nat.le_refl _) _)
    have hst : Wl.cell? ⟨gB + 1 + 1, 0, none⟩ = some (.int .i64 (s : Int)) := by
      rw [← hWl, ← hgB]
      exact (Box.new_ (by simp) (.int .i64 (s : Int)) 3).1
    have hDs : Ds w gS gB n (Mc.tab Mc.oD ((Mc.wk ⟨i, o, rs⟩ s).take 0) n) Wl := by
      refine ⟨hbw, ?_, ?_, by omega, by omega, by omega⟩
      · rw [← hWl, ← hgB]
        exact ((Box.new w3 (.slice (some ⟨gS, 0, none⟩) n n) 36).alloc _).alloc _
      · rw [List.take_zero, Mc.tab_nil]
        exact hBk.mvB hbB
    have hG : GivesW (mm - 1) 53 #[.pointer (some ⟨gB + 1 + 1, 0, none⟩), .pointer (some ⟨gB + 1, 0, none⟩)] (Mc.wk ⟨i, o, rs⟩ s) (fun b => b = gS ∨ b = gB) Wl :=
      walk1_gives (mm - 1) ⟨i, o, rs⟩ HV.out (gB + 1) (gB + 1 + 1) A c s (fun b => b = gS ∨ b = gB) w Wl hr hbw hbx hst (by simp only [hn]; omega) (fun h => by omega) (fun b h => by omega) (fun b h => by omega)
    have hBF := Lib.hid (Mc.wk_bf HV.out (s := (s : Int)) (by simp only [hn]; omega))
    clear q0 q1 q2 hM3 hBk hbB hbx hst hWl hB3 hb3 hB2
    refine range_words (m := mm) 53 _ rfl (enters_of Try.func53 (by kernel_rfl) rfl) (Mc.wk ⟨i, o, rs⟩ s) (fun b => b = gS ∨ b = gB) (fun b h => by omega) rfl hG
      (fun k W => Ds w gS gB n (Mc.tab Mc.oD ((Mc.wk ⟨i, o, rs⟩ s).take k) n) W) (fun _ _ => False) (fun k A B h c => h.ch c (by omega) (by omega)) (fun c' A B h _ => h.elim) hDs ?round ?done ?stop
    case round =>
      intro l k x X W hk hW hI hO
      obtain ⟨xs, xw⟩ := x
      have hx := (hBF.out.lw _ (List.mem_of_getElem? hk)).1
      simp only [hn] at hx
      obtain ⟨t, rfl⟩ := Int.eq_ofNat_of_zero_le hx.1
      have htn : t < n := by omega
      have HT := Lib.hid (Mc.tab_snoc (f := Mc.oD) (n := n) (w := xw) (Mc.look_take HV.out hBF.out hk))
      rw [← Mc.take_snocW hk] at HT
      obtain ⟨cs, hcs⟩ : ∃ cs, Mc.tab Mc.oD ((Mc.wk ⟨i, o, rs⟩ s).take k) n = cs := ⟨_, rfl⟩
      have hcl : Hid (cs.length = n) := by show _ = _; rw [← hcs]; exact Mc.tab_len
      rw [hcs] at hI HT
      simp only [wvv]
      clear hk hO hG hDs hcs hx
      gi_wp2_with fail
      refine ⟨Below.refl _ _, fun W2 hc2 => ?_⟩
      have hI2 := hI.ch (Ch.of_cells hc2) (by omega) (by omega)
      clear hI hc2
      have b0 := hI2.bs.1
      obtain ⟨c0, c1⟩ := hI2.bk.at_ (k := t) (by rw [hcl.out]; exact htn)
      obtain ⟨z, hzz⟩ : ∃ z, cs[t]?.getD 0 = z := ⟨_, rfl⟩
      rw [hzz] at c0
      have hI5 : Ds w gS gB n (Mc.tab Mc.oD ((Mc.wk ⟨i, o, rs⟩ s).take (k + 1)) n) (W2.setCell ⟨gS, t, none⟩ (.int .i64 xw.length)) := by
        rw [HT.out]
        exact ⟨hI2.bel.setCell (p := ⟨gS, t, none⟩) hI2.sS _, hI2.bs.far (fun e => hI2.ne e.symm) _, hI2.bk.set_ t _, hI2.sB, hI2.sS, hI2.ne⟩
      have R : roundP (fun b => b = gS ∨ b = gB) (fun k W => Ds w gS gB n (Mc.tab Mc.oD ((Mc.wk ⟨i, o, rs⟩ s).take k) n) W) (fun _ _ => False) k W2 .normal ⟨#[], []⟩ (W2.setCell ⟨gS, t, none⟩ (.int .i64 xw.length)) :=
        ⟨hI5, KA.set (D := fun b => b = gS ∨ b = gB) _ (.inl rfl) _⟩
      have RH := Lib.hid R
      clear R hI5 hI2 hzz
      gi_wp2_with fail
      exact RH.out
    case done =>
      intro N W hN hI hd
      rw [List.take_length] at hI
      have b0 := hI.bs.1
      have hB := Lib.hid hI.bk
      have hbel := Lib.hid hI.bel
      have hs3 := hI.sS
      have hfin : Hid (DstP w ⟨i, o, rs⟩ s (.returned (.tuple #[.slice (some ⟨gS, 0, none⟩) n n, .int .i64 0])) (W.putObj N (.deferred none))) := by
        have hc : Cells w.heap.size W (W.putObj N (.deferred none)) := Cells.put _ hd rfl (by omega)
        refine ⟨some ⟨gS, 0, none⟩, n, by rw [HZ.out], by rw [hv.out]; exact Mc.tab_len, ?_, hc.below (Nat.le_refl _) hbel.out⟩
        rw [hv.out]
        exact (hB.out.mvC hc).rd
      clear hI hDs hG
      simp only [marked]
      gi_wp2_with fail
      refine ⟨by simp, .inl ⟨_, _, rfl, run_takeDeferred hd, ?_⟩⟩
      refine ⟨.tuple #[.slice (some ⟨gS, 0, none⟩) n n, .int .i64 0], ?_, hfin.out⟩
      simp [results, Try.f20, go_sem]
    case stop =>
      rintro N c' W hN h hd
      exact h.elim
  · have hzb : (Mc.chkS ⟨i, o, rs⟩ [s] == 0) = false := by rw [beq_eq_false_iff_ne]; exact hz
    have hv : Hid (Mc.dstV ⟨i, o, rs⟩ s = []) := by
      show _ = _
      unfold Mc.dstV
      rw [if_neg hz]
    obtain ⟨z, hzz⟩ : ∃ z, Mc.chkS ⟨i, o, rs⟩ [s] = z := ⟨_, rfl⟩
    rw [hzz] at hz hzb ⊢
    have HZ := Lib.hid hzz
    have hzn : (z != 0) = true := by simpa using hz
    have hfin : Hid (DstP w ⟨i, o, rs⟩ s (.returned (.tuple #[.slice none 0 0, .int .i64 z])) w2) := ⟨none, 0, by rw [HZ.out], by rw [hv.out]; rfl, by rw [hv.out]; exact Rd.nil_, hB2⟩
    clear hzz
    gi_wp2_with fail
    refine ⟨.tuple #[.slice none 0 0, .int .i64 z], ?_, hfin.out⟩
    simp [results, Try.f20, go_sem]
end Go.Proofs.Ytldpfbmkmehadaa
